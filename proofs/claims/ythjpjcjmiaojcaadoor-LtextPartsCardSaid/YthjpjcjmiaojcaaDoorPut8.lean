/- Contracts that the claim stands on, several texts in one: LtxAll, NumTextsPure, LexDec, LexNum. -/
import Derived.Lib.AtoiAllCases
import Derived.Lib.ItoaNum
import Derived.Lib.ItoaLen
import Derived.RangeFuncRecord
import Derived.Lib.AtoiErrMem
import Derived.Test.YthjpjcjmiaojcaaDoorPut1
import Derived.Test.YthjpjcjmiaojcaaDoorPut2
import Derived.Test.YthjpjcjmiaojcaaDoorPut3
import Derived.Test.YthjpjcjmiaojcaaDoorPut4
import Derived.Test.YthjpjcjmiaojcaaDoorPut5
import Derived.Test.YthjpjcjmiaojcaaDoorPut6
import Derived.Test.YthjpjcjmiaojcaaDoorPut7
namespace Go.Proofs.YthjpjcjmiaojcaaDoor.tx
open Go.ChangeShapes Go.WideShapes Go.ChangeAt Go.RowKit Go.Deep sr lt lx

instance : Inhabited Tok := ⟨⟨0, 0, 0, ⟨#[]⟩⟩⟩
theorem tokC_len (t : Tok) : (cellT t).length = 4 := rfl
theorem tokC_one (t : Tok) : ∀ u ∈ cellT t, u.oneCell' = true := by
  intro u hu
  simp only [cellT, List.mem_cons, List.not_mem_nil, or_false] at hu
  rcases hu with rfl | rfl | rfl | rfl <;> simp [Value.oneCell']
theorem infoTk : (Tryd.prog.info? 72).map (fun i => (i.zero, i.size, i.bytes)) = some (some (.agg #[.int .i64 0, .int .i64 0, .int .i64 0, .string ⟨#[]⟩]), 4, 40) := by kernel_rfl
/-- The proposition of a name. -/
def prN (N : List ByteArray) (s : List UInt8) : Option Nat := prO N ⟨s.toArray⟩
theorem prN_eq (N : List ByteArray) (s : ByteArray) : prN N s.data.toList = prO N s := rfl
/-- All tokens and the end; what the reader is told of them. -/
def allT (toks : List Tok) (L : Nat) : List Tok := toks ++ [⟨0, 0, L, ⟨#[]⟩⟩]
def tkL (T : List Tok) : List (Int × List UInt8) := T.map (fun t => ((t.kind : Int), t.text.data.toList))
/-- What all tells. -/
def allV (N : List ByteArray) (T : List Tok) (R : Nat × Bool × Rd) : List (Int × Int) × Nat × Int :=
  if R.2.1 = true then (R.2.2.nd, 0, 0) else ([], (T.getD R.1 default).pos, rfF (prO N (T.getD R.1 default).text) (T.getD R.1 default).kind (T.getD R.1 default).text.data.toList)
def AllP (w0 : World) (V : List (Int × Int) × Nat × Int) (e : Ending) (w' : World) : Prop := ∃ v, e = .returned (.tuple #[v, .int .i64 (V.2.1 : Nat), .int .i64 V.2.2]) ∧ ON w0.heap.size w' v V.1 ∧ Below w0.heap.size w0 w'
theorem run_step {pr : List UInt8 → Option Nat} {Q : List Tok} {S : Rd} {i : Nat} (hi : i < Q.length) {t : Tok} (ht : Q.getD i default = t) : runF pr (tkL (Q.drop i)) S = if (stepF pr t.kind t.text.data.toList S).1 = true then ((runF pr (tkL (Q.drop (i + 1))) (stepF pr t.kind t.text.data.toList S).2).1 + 1, (runF pr (tkL (Q.drop (i + 1))) (stepF pr t.kind t.text.data.toList S).2).2) else (0, false, (stepF pr t.kind t.text.data.toList S).2) := by
  have e : Q.getD i default = Q[i] := by simp [List.getD, hi]
  rw [e] at ht
  rw [List.drop_eq_getElem_cons hi, ht]
  rfl
/-- A token of a row that stays. -/
theorem tok_at {w w' : World} {g : Nat} {T : List Tok} (h : RS cellT 4 w (some ⟨g, 0, none⟩) T) (e : w'.heap[g]? = w.heap[g]?) {i : Nat} (hi : i < T.length) :
    w'.cell? ⟨g, i * 4, none⟩ = some (.int .i64 ((T.getD i default).kind : Nat)) ∧ w'.cell? ⟨g, i * 4 + 1, none⟩ = some (.int .i64 (T.getD i default).num) ∧ w'.cell? ⟨g, i * 4 + 2, none⟩ = some (.int .i64 ((T.getD i default).pos : Nat)) ∧ w'.cell? ⟨g, i * 4 + 3, none⟩ = some (.string (T.getD i default).text) := by
  obtain ⟨b, off, e1, hb, hc⟩ := h (by omega)
  injection e1 with e1
  injection e1 with e1 e2 _
  subst e1 e2
  have hh := fun (j : Nat) (hj : j < 4) => (World.cell?_of_block (a := ⟨g, 0 + i * 4 + j, none⟩) e).trans (hc i hi j hj)
  simp only [Nat.zero_add] at hh
  exact ⟨hh 0 (by omega), hh 1 (by omega), hh 2 (by omega), hh 3 (by omega)⟩
theorem Rc.stay {w w' : World} {b : Nat} {v0 v1 v2 v3 : Value} (h : Rc w b v0 v1 v2 v3) (e : w'.heap[b]? = w.heap[b]?) (hs : w.heap.size ≤ w'.heap.size) : Rc w' b v0 v1 v2 v3 :=
  ⟨(World.cell?_of_block (a := ⟨b, 0, none⟩) e).trans h.c0, (World.cell?_of_block (a := ⟨b, 1, none⟩) e).trans h.c1, (World.cell?_of_block (a := ⟨b, 2, none⟩) e).trans h.c2, (World.cell?_of_block (a := ⟨b, 3, none⟩) e).trans h.c3, fun j => (frozen_blk e).trans (h.f j), Nat.lt_of_lt_of_le h.lt hs⟩
set_option maxRecDepth 20000 in
set_option maxHeartbeats 8000000 in
theorem all_any (w0 w : World) (rb : Nat) (NA : Option Addr) (n d : Nat) (N : List ByteArray) (tv : Value) (toks : List Tok) (L : Nat) (v1 : Value)
    (h : Rc w rb (.slice NA n d) v1 (.slice none 0 0) (.slice none 0 0)) (hT : OR cellT 4 w0.heap.size 72 w tv toks) (hlt : ∀ g, tv.ownBlock = some g → g < rb) (hw : Below w0.heap.size w0 w) (hrb : w0.heap.size ≤ rb) (hN : NmS w0 NA n d N) (hO : OpsW w0) (ht : toks.length ≤ 6000) :
    Calls Tryd.prog 21 #[.pointer (some ⟨rb, 0, none⟩), tv, .int .i64 (L : Nat)] w (AllP w0 (allV N (allT toks L) (runF (prN N) (tkL (allT toks L)) rd0))) := by
  obtain ⟨z, HZ⟩ : ∃ z, Hid (allV N (allT toks L) (runF (prN N) (tkL (allT toks L)) rd0) = z) := ⟨_, Lib.hid rfl⟩
  rw [HZ.out]
  obtain ⟨A1, c1', l1, e1⟩ := or_form tokC_len hT
  subst e1
  have HT := Lib.hid hT
  have H := Lib.hid h
  have HLT := Lib.hid hlt
  have HW := Lib.hid hw
  have HRB := Lib.hid hrb
  have HN := Lib.hid hN
  have HO := Lib.hid hO
  have HTL := Lib.hid ht
  have j1 := h.c1
  have g1 := h.f 1
  have hst := store_func
  clear h hT hlt hw hrb hN hO ht
  go_enter Tryd.func21, Tryd.ntmps21
  go_upto_region 2 with (fail)
  obtain ⟨w1, HW1⟩ : ∃ w1, w1 = w.setCell ⟨rb, 1, none⟩ (.func (.func 37) #[.pointer (some ⟨rb, 0, none⟩)] #[]) := ⟨_, rfl⟩
  rw [← HW1]
  have HR1 : Hid (Rc w1 rb (.slice NA n d) (fv true rb) (.slice none 0 0) (.slice none 0 0)) := Lib.hid (by rw [HW1]; exact H.out.set1 (fv true rb))
  have HT1 : Hid (OR cellT 4 w0.heap.size 72 w1 (.slice A1 l1 c1') toks) := Lib.hid (by
    rw [HW1]
    refine World.ownsRow.kept HT.out (Lib.grownBy_setCell w rb 1 _) ?_
    rcases hv : (Value.slice A1 l1 c1').ownBlock with _ | g
    · exact .inl rfl
    · refine .inr (fun e => ?_)
      injection e with e
      have := HLT.out g hv
      omega)
  have HB1 : Hid (Below w0.heap.size w0 w1) := Lib.hid (by rw [HW1]; exact HW.out.setCell HRB.out _)
  clear HW1 j1 g1
  go_wp2_with (at_builtin; go_loud (refine sr.list_append_own tokC_len tokC_one Tryd.underlying47 infoTk rfl (by decide) (by decide) w0.heap.size _ rfl (.tmp 16) (.tmp 19) rfl rfl _ toks rfl (OR.below HT1.out (below_one _ _)) (⟨0, 0, L, ⟨#[]⟩⟩ : Tok) _ rfl rfl (by have := HTL.out; omega) (by have := HB1.out.size; simp; omega) _ (World.alloc_heap_new _ _) ?_); intro v5 w5 ho5 hb5 hg5; obtain ⟨A5, c5, q5, rfl⟩ := or_form tokC_len ho5; have HT5 : Hid (OR cellT 4 w0.heap.size 72 w5 (.slice A5 q5 c5) (allT toks L)) := Lib.hid ho5; have HB5 : Hid (Below w0.heap.size w0 w5) := Lib.hid ((HB1.out.alloc HB1.out.size _).trans hb5); have HG5 : Hid (w5.heap[rb]? = w1.heap[rb]? ∧ w1.heap.size ≤ w5.heap.size) := Lib.hid ⟨(hg5.block rb (by have := HR1.out.lt; simp; omega) (fun e => by have := HLT.out rb e.symm; omega)).trans ((below_one w1 _).block rb HR1.out.lt), Nat.le_trans (by simp) hg5.size⟩; clear ho5 hb5 hg5)
  have HR5 : Hid (RdW w5 rb (.slice NA n d) rd0 (.slice none 0 0) (.slice none 0 0)) := Lib.hid ⟨HR1.out.stay HG5.out.1 HG5.out.2, World.ownsRow_nil _ _ _ _, World.ownsRow_nil _ _ _ _⟩
  obtain ⟨T, HTT⟩ : ∃ T, Hid (allT toks L = T) := ⟨_, Lib.hid rfl⟩
  rw [HTT.out] at HT5 HZ
  obtain ⟨R, HR⟩ : ∃ R, Hid (runF (prN N) (tkL T) rd0 = R) := ⟨_, Lib.hid rfl⟩
  rw [HR.out] at HZ
  have HTN : Hid (0 < T.length ∧ T.length ≤ 6001) := Lib.hid (by rw [← HTT.out]; unfold allT; have := HTL.out; simp; omega)
  obtain ⟨g, HGF⟩ : ∃ g, Hid (A5 = some ⟨g, 0, none⟩ ∧ q5 = T.length ∧ (∃ cur, w5.heap[g]? = some (.cells cur 72 (0, 0)))) := by
    rcases HT5.out.2 with ⟨_, e0⟩ | ⟨g, cap, cur, e, _, hg, _⟩
    · have := HTN.out.1
      exact absurd e0 (by omega)
    · injection e with e1 e2 e3
      exact ⟨g, Lib.hid ⟨e1, e2, cur, hg⟩⟩
  have hA5 := HGF.out.1
  subst hA5
  have HRS5 : Hid (RS cellT 4 w5 (some ⟨g, 0, none⟩) T) := Lib.hid (by
    obtain ⟨A, c, e, hr⟩ := OR.rs tokC_len HT5.out
    injection e with e
    rw [e]
    exact hr)
  have HGN : Hid (g ≠ rb) := Lib.hid (fun e => by
    have h1 := (tok_at HRS5.out rfl (i := 0) HTN.out.1).1
    have h2 := HR5.out.c.c0
    subst e
    rw [Nat.zero_mul] at h1
    rw [h1] at h2
    cases h2)
  have HQ5 : Hid (q5 = T.length) := Lib.hid HGF.out.2.1
  have hq9 : q5 ≤ 6001 := by rw [HQ5.out]; exact HTN.out.2
  go_loopw [22] (fun iv wr => ∃ (i : Nat) (S : Rd) (vn vp : Value), i ≤ q5 ∧ iv = .int .i64 (i : Int) ∧ Hid (RdW wr rb (.slice NA n d) S vn vp) ∧ Hid (S.nd.length + S.pd.length ≤ i) ∧ Hid (R = ((runF (prN N) (tkL (T.drop i)) S).1 + i, (runF (prN N) (tkL (T.drop i)) S).2)) ∧ Hid (Below rb w5 wr) ∧ Hid (Kp tsO rb w5 wr)) (fun iv _ => q5 - (intOf iv).toNat)
  case atStart => exact ⟨0, rd0, _, _, Nat.zero_le _, rfl, HR5, Lib.hid (Nat.le_refl _), Lib.hid (by rw [List.drop_zero, HR.out]; rfl), Lib.hid (Below.refl _ _), Lib.hid (Kp.refl _ _ _)⟩
  case round =>
    obtain ⟨i, S, vn, vp, hi, rfl, HRD, HLN, HRR, HB, HKP⟩ := hrel
    have HBW : Hid (Below w0.heap.size w0 wr) := Lib.hid (HB5.out.trans (HB.out.mono HRB.out))
    by_cases hlt : i < q5
    · have HIL : Hid (i < T.length) := Lib.hid (by rw [← HQ5.out]; exact hlt)
      have hgk : wr.heap[g]? = w5.heap[g]? := by
        obtain ⟨cur, hg⟩ := HGF.out.2.2
        rw [HKP.out.stay hg HGN.out (by decide), hg]
      obtain ⟨k0, k1, k2, k3⟩ := tok_at HRS5.out hgk HIL.out
      obtain ⟨t, HTD⟩ : ∃ t, Hid (T.getD i default = t) := ⟨_, Lib.hid rfl⟩
      rw [HTD.out] at k0 k1 k2 k3
      have HST := Lib.hid (run_step (pr := prN N) (S := S) HIL.out HTD.out)
      obtain ⟨ok, S2, HSP⟩ : ∃ ok S2, Hid (stepF (prN N) t.kind t.text.data.toList S = (ok, S2)) := ⟨_, _, Lib.hid rfl⟩
      rw [HSP.out] at HST
      have HSL : Hid (S2.nd.length + S2.pd.length ≤ i + 1) := Lib.hid (by
        have h1 := step_len (prN N) t.kind t.text.data.toList S
        rw [HSP.out] at h1
        have h2 := HLN.out
        simp only at h1
        omega)
      clear hgk
      go_upto_region 5 with (fail)
      obtain ⟨w2, HW2⟩ : ∃ w2, w2 = wr.alloc (.cells #[.int .i64 (t.kind : Nat), .int .i64 t.num, .int .i64 (t.pos : Nat), .string t.text] 72) := ⟨_, rfl⟩
      have hb2 : Below wr.heap.size wr w2 := by rw [HW2]; exact below_one _ _
      obtain ⟨xb, HXB⟩ : ∃ xb, Hid (xb = wr.heap.size) := ⟨_, Lib.hid rfl⟩
      have HX2 : Hid (w2.heap[xb]? = some (tkC t.kind t.num t.pos t.text)) := Lib.hid (by rw [HXB.out, HW2]; exact World.alloc_heap_new _ _)
      have HXN : Hid (xb ≠ rb ∧ xb < w2.heap.size) := Lib.hid ⟨by rw [HXB.out]; have := HRD.out.c.lt; omega, by rw [HXB.out, HW2]; simp⟩
      have HB2 : Hid (Below rb w5 w2) := Lib.hid (HB.out.trans (hb2.mono (Nat.le_of_lt HRD.out.c.lt)))
      have HK2 : Hid (Kp tsO rb w5 w2) := Lib.hid (HKP.out.trans (Kp.below hb2) HB.out.size)
      have HBW2 : Hid (Below w0.heap.size w0 w2) := Lib.hid (HB5.out.trans (HB2.out.mono HRB.out))
      have H2 := Lib.hid (HRD.out.below hb2)
      rw [← HXB.out, ← HW2]
      clear HW2 HXB hb2 HRD k0 k1 k2 k3
      have HNX : Hid (∀ W, Below w2.heap.size w2 W → ∀ fn, fv S.bg rb = .func (.func fn) #[.pointer (some ⟨rb, 0, none⟩)] #[] → Calls Tryd.prog fn #[.pointer (some ⟨rb, 0, none⟩), .agg #[.int .i64 (t.kind : Nat), .int .i64 t.num, .int .i64 (t.pos : Nat), .string t.text]] W (BoolQ tsO W rb (.slice NA n d) (ok, S2))) := Lib.hid (fun W hW fn hfn => by
        rw [← HSP.out]
        have hNW := (HN.out.below HBW2.out).below (hW.mono (Nat.le_refl _))
        have hOW := (HO.out.keep HBW2.out).keep hW
        have hRW := H2.out.below hW
        have hl : S.nd.length + S.pd.length ≤ 80000 := by have := HLN.out; omega
        obtain ⟨bg, nd, pd⟩ := S
        cases bg with
        | true =>
          injection hfn with h1 _ _
          injection h1 with h1
          subst h1
          exact begin_any rb NA n d N ⟨true, nd, pd⟩ vn vp t.kind t.num t.pos t.text W hRW hNW hOW hl
        | false =>
          injection hfn with h1 _ _
          injection h1 with h1
          subst h1
          exact goOn_any rb (.slice NA n d) ⟨false, nd, pd⟩ vn vp t.kind t.num t.pos t.text W hRW hOW hl)
      obtain ⟨fn, HFN, eg⟩ : ∃ fn, Hid (fv S.bg rb = .func (.func fn) #[.pointer (some ⟨rb, 0, none⟩)] #[]) ∧ ∀ args w, (callFunc fn args).run Tryd.prog w = .ok (.enter fn args) w := by
        cases S.bg with
        | true => exact ⟨37, Lib.hid rfl, enters_of Tryd.func37 (by kernel_rfl) rfl⟩
        | false => exact ⟨71, Lib.hid rfl, enters_of Tryd.func71 (by kernel_rfl) rfl⟩
      have c1 := H2.out.c.c1
      rw [HFN.out] at c1
      have x0 : w2.cell? ⟨xb, 0, none⟩ = some (.int .i64 (t.kind : Nat)) := cell_of HX2.out 0
      have x1 : w2.cell? ⟨xb, 1, none⟩ = some (.int .i64 t.num) := cell_of HX2.out 1
      have x2 : w2.cell? ⟨xb, 2, none⟩ = some (.int .i64 (t.pos : Nat)) := cell_of HX2.out 2
      have x3 : w2.cell? ⟨xb, 3, none⟩ = some (.string t.text) := cell_of HX2.out 3
      go_still_tail 5, (by kernel_rfl)
      change wpList _ _ _ _ _ w2.drew
      go_wp2_with fail
      refine (HNX.out _ (Below.refl _ w2).drew fn HFN.out).mono ?_
      rintro x w3 ⟨rfl, ⟨vn3, vp3, h3⟩, hb3, hk3⟩
      have HB3 : Hid (Below rb w5 w3) := Lib.hid (HB2.out.drew.trans hb3)
      have HK3 : Hid (Kp tsO rb w5 w3) := Lib.hid ((HK2.out.trans (Kp.below (Below.refl _ w2).drew) HB2.out.size).trans hk3 (Nat.le_trans HB2.out.size (Below.refl w2.heap.size w2).drew.size))
      have HX3 : Hid (w3.heap[xb]? = some (tkC t.kind t.num t.pos t.text)) := Lib.hid (hk3.stay ((((Below.refl w2.heap.size w2).drew).block xb HXN.out.2).trans HX2.out) HXN.out.1 (by decide))
      have HBW3 : Hid (Below w0.heap.size w0 w3) := Lib.hid (HB5.out.trans (HB3.out.mono HRB.out))
      have H3 := Lib.hid h3
      clear h3 hb3 hk3 x0 x1 x2 x3 c1
      dsimp only at H3
      cases ok with
      | true =>
        have HNR : Hid (R = ((runF (prN N) (tkL (T.drop (i + 1))) S2).1 + (i + 1), (runF (prN N) (tkL (T.drop (i + 1))) S2).2)) := Lib.hid (by
          rw [HRR.out, HST.out, if_pos rfl]
          simp only [Nat.add_assoc, Nat.add_comm 1 i])
        clear HNX
        go_wp2
        go_roundw
        case rel => exact ⟨i + 1, S2, vn3, vp3, by omega, by go_num, H3, HSL, HNR, HB3, HK3⟩
        case measure => simp [intOf]; omega
      | false =>
        have HE : Hid (R = (i, false, S2)) := Lib.hid (by rw [HRR.out, HST.out, if_neg (by decide)]; simp)
        have HV : Hid (z = ([], t.pos, rfF (prO N t.text) t.kind t.text.data.toList)) := Lib.hid (by
          rw [← HZ.out, HE.out]
          unfold allV
          simp only [Bool.false_eq_true, if_false]
          rw [HTD.out])
        have HRF : Hid (∀ W, Below w3.heap.size w3 W → Calls Tryd.prog 38 #[.pointer (some ⟨rb, 0, none⟩), .agg #[.int .i64 (t.kind : Nat), .int .i64 t.num, .int .i64 (t.pos : Nat), .string t.text]] W fun e w' => e = .returned (.int .i64 (rfF (prO N t.text) t.kind t.text.data.toList)) ∧ Below W.heap.size W w') := Lib.hid (fun W hW =>
          refusal_any rb NA n d N t.kind t.num t.pos t.text W (H3.out.c.below hW).c0 (H3.out.c.below hW).lt ((HN.out.below HBW3.out).below hW) ((HO.out.keep HBW3.out).keep hW))
        obtain ⟨why, HWY⟩ : ∃ y, Hid (rfF (prO N t.text) t.kind t.text.data.toList = y) := ⟨_, Lib.hid rfl⟩
        rw [HWY.out] at HRF HV
        have HX3L : Hid (xb < w3.heap.size) := Lib.hid (by
          rcases Nat.lt_or_ge xb w3.heap.size with hh | hh
          · exact hh
          · have h9 := HX3.out
            rw [Array.getElem?_eq_none hh] at h9
            cases h9)
        have x0 : w3.cell? ⟨xb, 0, none⟩ = some (.int .i64 (t.kind : Nat)) := cell_of HX3.out 0
        have x1 : w3.cell? ⟨xb, 1, none⟩ = some (.int .i64 t.num) := cell_of HX3.out 1
        have x2 : w3.cell? ⟨xb, 2, none⟩ = some (.int .i64 (t.pos : Nat)) := cell_of HX3.out 2
        have x3 : w3.cell? ⟨xb, 3, none⟩ = some (.string t.text) := cell_of HX3.out 3
        clear HNX
        go_upto_region 6 with (fail)
        go_region_held3 (fun w' => w'.cell? ⟨xb, 0, none⟩ = some (.int .i64 (t.kind : Nat)) ∧ w'.cell? ⟨xb, 1, none⟩ = some (.int .i64 t.num) ∧ w'.cell? ⟨xb, 2, none⟩ = some (.int .i64 (t.pos : Nat)) ∧ w'.cell? ⟨xb, 3, none⟩ = some (.string t.text))
          (first | exact ⟨x0, x1, x2, x3⟩ | exact ⟨l0, l1, l2, l3⟩ | go_keep)
          ((go_at_call 38; refine (HRF.out _ (Below.refl _ w3).drew).mono ?_; rintro x w4 ⟨rfl, hb4⟩; have HB4 : Hid (Below w3.heap.size w3 w4) := Lib.hid (RowKit.Below.trans (Below.refl _ w3).drew hb4); have l0 : w4.cell? ⟨xb, 0, none⟩ = some (.int .i64 (t.kind : Nat)) := (HB4.out.cell (p := ⟨xb, 0, none⟩) HX3L.out).trans x0; have l1 : w4.cell? ⟨xb, 1, none⟩ = some (.int .i64 t.num) := (HB4.out.cell (p := ⟨xb, 1, none⟩) HX3L.out).trans x1; have l2 : w4.cell? ⟨xb, 2, none⟩ = some (.int .i64 (t.pos : Nat)) := (HB4.out.cell (p := ⟨xb, 2, none⟩) HX3L.out).trans x2; have l3 : w4.cell? ⟨xb, 3, none⟩ = some (.string t.text) := (HB4.out.cell (p := ⟨xb, 3, none⟩) HX3L.out).trans x3; clear hb4))
        go_wp2
        go_ret3
        rw [HV.out]
        exact ⟨_, rfl, World.ownsRow_nil _ _ _ _, HBW3.out.trans (HB4.out.mono HBW3.out.size)⟩
    · have HE : Hid (R = (q5, true, S)) := Lib.hid (by
        have h1 : i = T.length := by have := HQ5.out; omega
        rw [HRR.out, List.drop_of_length_le (by omega)]
        show (0 + i, true, S) = _
        rw [Nat.zero_add, h1, HQ5.out])
      have HV : Hid (z = (S.nd, 0, 0)) := Lib.hid (by rw [← HZ.out, HE.out]; rfl)
      have c2 := HRD.out.c.c2
      go_wp2
      go_ret3
      rw [HV.out]
      exact ⟨_, rfl, HRD.out.n.mono (by have := HRB.out; omega), HBW.out⟩
end Go.Proofs.YthjpjcjmiaojcaaDoor.tx
namespace Go.Proofs.YthjpjcjmiaojcaaDoor
open Go.Lib

/-- What digits make, behind a number. -/
def dv (a : Nat) (l : List UInt8) : Nat := l.foldl (fun a c => a * 10 + (c.toNat - 48)) a
def DG (l : List UInt8) : Prop := ∀ c ∈ l, 48 ≤ c.toNat ∧ c.toNat ≤ 57
theorem dv_snoc (a : Nat) (l : List UInt8) (c : UInt8) : dv a (l ++ [c]) = dv a l * 10 + (c.toNat - 48) := by simp [dv]
theorem dig_nat {d : Nat} (h : d < 10) : (UInt8.ofNat (48 + d)).toNat = 48 + d := by
  rw [UInt8.toNat_ofNat']; omega
theorem decDigits_big {u : Nat} (h : ¬ u < 10) : decDigits u = decDigits (u / 10) ++ [UInt8.ofNat (48 + u % 10)] := by rw [decDigits, dif_neg h]
theorem decDigits_dg (u : Nat) : DG (decDigits u) := by
  induction u using Nat.strongRecOn with
  | ind u ih =>
    by_cases h : u < 10
    · rw [decDigits_one h]
      intro c hc
      simp only [List.mem_cons, List.not_mem_nil, or_false] at hc
      subst hc
      rw [dig_nat h]; omega
    · rw [decDigits_big h]
      intro c hc
      rcases List.mem_append.1 hc with hc | hc
      · exact ih (u / 10) (by omega) c hc
      · simp only [List.mem_cons, List.not_mem_nil, or_false] at hc
        subst hc
        rw [dig_nat (by omega)]; omega
theorem dv_dec (u : Nat) : dv 0 (decDigits u) = u := by
  induction u using Nat.strongRecOn with
  | ind u ih =>
    by_cases h : u < 10
    · rw [decDigits_one h]
      show 0 * 10 + ((UInt8.ofNat (48 + u)).toNat - 48) = u
      rw [dig_nat h]; omega
    · rw [decDigits_big h, dv_snoc, ih (u / 10) (by omega), dig_nat (by omega)]
      omega
theorem decDigits_ne (u : Nat) : decDigits u ≠ [] := by
  rw [decDigits]
  split <;> simp
theorem dv_mono (l : List UInt8) : ∀ a, a ≤ dv a l := by
  induction l with
  | nil => intro a; exact Nat.le_refl _
  | cons c r ih => intro a; exact Nat.le_trans (by omega) (ih (a * 10 + (c.toNat - 48)))
theorem parse_dv : ∀ (l : List UInt8) (a : Nat), DG l → dv a l < 18446744073709551616 → parseUint10 a l = .ok (dv a l)
  | [], _, _, _ => rfl
  | c :: r, a, hd, hlt => by
    have hc := hd c (by simp)
    have hlt2 : dv (a * 10 + (c.toNat - 48)) r < 18446744073709551616 := hlt
    have hm := dv_mono r (a * 10 + (c.toNat - 48))
    rw [parseUint10, if_pos hc, if_neg (by omega), if_neg (by omega)]
    exact parse_dv r _ (fun x hx => hd x (by simp [hx])) hlt2
theorem parseMag_dec {u : Nat} (h : u < 18446744073709551616) : parseMag (decDigits u) = .ok u := by
  unfold parseMag
  rw [if_neg (decDigits_ne u), parse_dv _ _ (decDigits_dg u) (by rw [dv_dec]; exact h), dv_dec]
theorem atoi_itoa {n : Int} (h0 : -9223372036854775808 ≤ n) (h1 : n ≤ 9223372036854775807) : atoiAll (itoa n) = .ok n := by
  by_cases hn : n < 0
  · unfold itoa
    rw [if_pos hn, atoiAll_minus, parseMag_dec (by omega)]
    show (if 9223372036854775808 < n.natAbs then _ else _) = _
    rw [if_neg (by omega)]
    congr 1; omega
  · unfold itoa
    rw [if_neg hn]
    have hp := parseMag_dec (u := n.toNat) (by omega)
    have hd := decDigits_dg n.toNat
    cases hc : decDigits n.toNat with
    | nil => exact absurd hc (decDigits_ne _)
    | cons c r =>
      rw [hc] at hp hd
      have := hd c (by simp)
      rw [atoiAll_plain c r (by omega) (by omega), hp]
      show (if 9223372036854775808 ≤ n.toNat then _ else _) = _
      rw [if_neg (by omega)]
      congr 1; omega
theorem itoa_inj {m n : Int} (hm0 : -9223372036854775808 ≤ m) (hm1 : m ≤ 9223372036854775807) (hn0 : -9223372036854775808 ≤ n) (hn1 : n ≤ 9223372036854775807) (h : itoa m = itoa n) : m = n := by
  have h1 := atoi_itoa hm0 hm1
  rw [h, atoi_itoa hn0 hn1] at h1
  injection h1 with h1
  exact h1.symm
/-- The document's count of digits, and the number of the first eight of them. -/
def docStep (p : Nat × Nat) (c : UInt8) : Nat × Nat := if 48 ≤ c.toNat ∧ c.toNat ≤ 57 ∧ p.2 < 8 then (p.1 * 10 + (c.toNat - 48), p.2 + 1) else p
def docFold (l : List UInt8) : Nat × Nat := l.foldl docStep (0, 0)
theorem docFold_snoc (l : List UInt8) (c : UInt8) : docFold (l ++ [c]) = docStep (docFold l) c := by simp [docFold]
theorem docFold_dv (l : List UInt8) : ∀ a d, DG l → d + l.length ≤ 8 → l.foldl docStep (a, d) = (dv a l, d + l.length) := by
  induction l with
  | nil => intro a d _ _; rfl
  | cons c r ih =>
    intro a d hd hl
    have hc := hd c (by simp)
    have e : docStep (a, d) c = (a * 10 + (c.toNat - 48), d + 1) := if_pos ⟨hc.1, hc.2, by simp at hl; show d < 8; omega⟩
    rw [List.foldl_cons, e, ih _ _ (fun x hx => hd x (by simp [hx])) (by simp at hl; omega)]
    simp [dv]; omega
def minusB (l : List UInt8) : Bool := l.head?.map (·.toNat) == some 45
/-- The number that the document reads. -/
def docNum (l : List UInt8) : Int := if minusB l = true then -((docFold l).1 : Int) else (docFold l).1
theorem docStep_le {p : Nat × Nat} (h : p.1 < 10 ^ p.2 ∧ p.2 ≤ 8) (c : UInt8) : (docStep p c).1 < 10 ^ (docStep p c).2 ∧ (docStep p c).2 ≤ 8 := by
  unfold docStep
  split
  · rename_i h2
    refine ⟨?_, by show _ + 1 ≤ 8; omega⟩
    show p.1 * 10 + (c.toNat - 48) < 10 ^ (p.2 + 1)
    rw [Nat.pow_succ]; omega
  · exact h
theorem foldl_le : ∀ (l : List UInt8) (p : Nat × Nat), p.1 < 10 ^ p.2 ∧ p.2 ≤ 8 → (l.foldl docStep p).1 < 10 ^ (l.foldl docStep p).2 ∧ (l.foldl docStep p).2 ≤ 8
  | [], _, h => h
  | c :: r, p, h => foldl_le r _ (docStep_le h c)
theorem docFold_le (l : List UInt8) : (docFold l).1 < 10 ^ (docFold l).2 ∧ (docFold l).2 ≤ 8 := foldl_le l (0, 0) ⟨by decide, by decide⟩
theorem nDigits_le {u k : Nat} (h : u < 10 ^ (k + 1)) : nDigits u ≤ k + 1 := by
  induction k generalizing u with
  | zero => rw [nDigits_small (by simpa using h)]; exact Nat.le_refl _
  | succ k ih =>
    by_cases h2 : u < 10
    · rw [nDigits_small h2]; omega
    · rw [nDigits_big h2]
      have : u / 10 < 10 ^ (k + 1) := by rw [Nat.pow_succ] at h; omega
      have := ih this
      omega
theorem doc_itoa {n : Int} (h0 : -1048576 ≤ n) (h1 : n ≤ 1048576) : docNum (itoa n) = n ∧ (docFold (itoa n)).2 ≤ 7 := by
  by_cases hn : n < 0
  · have hl : (decDigits n.natAbs).length ≤ 7 := by rw [decDigits_length]; exact nDigits_le (k := 6) (by omega)
    have hf : docFold (itoa n) = (n.natAbs, (decDigits n.natAbs).length) := by
      unfold itoa docFold
      rw [if_pos hn, List.foldl_cons, show docStep (0, 0) 45 = (0, 0) from rfl, docFold_dv _ _ _ (decDigits_dg _) (by omega), dv_dec]
      simp
    refine ⟨?_, by rw [hf]; exact hl⟩
    unfold docNum
    rw [hf, if_pos (by unfold minusB itoa; rw [if_pos hn]; rfl)]
    show -((n.natAbs : Nat) : Int) = n
    omega
  · have hl : (decDigits n.toNat).length ≤ 7 := by rw [decDigits_length]; exact nDigits_le (k := 6) (by omega)
    have hf : docFold (itoa n) = (n.toNat, (decDigits n.toNat).length) := by
      unfold itoa docFold
      rw [if_neg hn, docFold_dv _ _ _ (decDigits_dg _) (by omega), dv_dec]
      simp
    refine ⟨?_, by rw [hf]; exact hl⟩
    have hmf : minusB (itoa n) = false := by
      unfold minusB itoa
      rw [if_neg hn]
      cases hc : decDigits n.toNat with
      | nil => rfl
      | cons c r =>
        have := decDigits_dg n.toNat c (by rw [hc]; simp)
        simp; omega
    unfold docNum
    rw [hf, hmf, if_neg (by decide)]
    show ((n.toNat : Nat) : Int) = n
    omega
end Go.Proofs.YthjpjcjmiaojcaaDoor
namespace Go.Proofs.YthjpjcjmiaojcaaDoor
open Go.ChangeShapes Go.WideShapes Go.ChangeAt Go.RowKit Go.Lib Go.Sort

/-- A decimal, as a text. -/
def dS (n : Int) : ByteArray := ⟨(itoa n).toArray⟩
def decZ (u : Nat) : List UInt8 := if u = 0 then [] else decDigits u
theorem decZ_step {u : Nat} (h : u ≠ 0) : decZ u = decZ (u / 10) ++ [UInt8.ofNat (48 + u % 10)] := by
  unfold decZ
  rw [if_neg h]
  by_cases h1 : u < 10
  · rw [if_pos (by omega), decDigits_one h1, show u % 10 = u by omega]; rfl
  · rw [if_neg (by omega), decDigits_big h1]
theorem wrap_id {x : Int} (h1 : -9223372036854775808 ≤ x) (h2 : x ≤ 9223372036854775807) : wrap64 x = x := by unfold wrap64; omega
theorem mod_dg {dg : Nat} (h : dg < 10) : (48 + (dg : Int)) % 256 = 48 + (dg : Int) := by omega
theorem abs_neg {a b : Nat} (h : a < b) : (-(a : Int)).natAbs < (-(b : Int)).natAbs := by omega
theorem abs_pos {a b : Nat} (h : a < b) : (a : Int).natAbs < (b : Int).natAbs := by omega
theorem tmod_pos {u dg : Nat} (h : u % 10 = dg) : (u : Int).tmod 10 = (dg : Int) := by rw [Int.tmod_eq_emod_of_nonneg (by omega)]; omega
theorem tdiv_pos {u d : Nat} (h : u / 10 = d) : (u : Int).tdiv 10 = (d : Int) := by rw [Int.tdiv_eq_ediv_of_nonneg (by omega)]; omega
theorem str_cons (c : UInt8) (l : List UInt8) : (⟨#[c]⟩ : ByteArray) ++ ⟨l.toArray⟩ = ⟨(c :: l).toArray⟩ := by
  apply ByteArray.ext
  simp [ByteArray.data_append]
theorem decZ_len {u : Nat} (h : u ≤ 9223372036854775808) : (decZ u).length ≤ 20 := by
  unfold decZ
  split
  · simp
  · rw [decDigits_length]; exact nDigits_le (k := 19) (Nat.lt_of_le_of_lt h (by decide))
/-- The table and the two variables that the library's calls read. -/
structure Tabs (w : World) : Prop where
  tab : TabIs Tryd.prog w "internal/strconv.uint64pow10" .u64 pow10Tab
  syn : ∃ te pe, w.cell? ⟨2, 0, none⟩ = some (.iface te pe)
  rng : ∃ te pe, w.cell? ⟨3, 0, none⟩ = some (.iface te pe)
theorem tabIs_below {w w' : World} {name : String} {k : IntKind} {zs : List Int} (h : TabIs Tryd.prog w name k zs) (hb : Below w.heap.size w w') : TabIs Tryd.prog w' name k zs := by
  unfold TabIs World.var? at *
  cases hg : Tryd.prog.globalNamed name with
  | none => rw [hg] at h; cases h
  | some g =>
    rw [hg] at h
    simp only [Option.bind_some] at h ⊢
    have hlt : g < w.heap.size := by
      rcases Nat.lt_or_ge g w.heap.size with h1 | h1
      · exact h1
      · rw [Array.getElem?_eq_none h1] at h; cases h
    rw [hb.block g hlt]
    exact h
theorem Tabs.below {w w' : World} (h : Tabs w) (hb : Below w.heap.size w w') : Tabs w' := by
  obtain ⟨t1, p1, h1⟩ := h.syn
  obtain ⟨t2, p2, h2⟩ := h.rng
  exact ⟨tabIs_below h.tab hb, ⟨t1, p1, (hb.cell (p := ⟨2, 0, none⟩) (World.block_lt_of_cell? _ _ h1)).trans h1⟩, ⟨t2, p2, (hb.cell (p := ⟨3, 0, none⟩) (World.block_lt_of_cell? _ _ h2)).trans h2⟩⟩
theorem below_grow (w : World) (k : Nat) (os : Array Obj) : Below w.heap.size w (grow (w.drewN k) os) :=
  ⟨rfl, rfl, rfl, by show w.heap.size ≤ (w.heap ++ os).size; simp, fun q hq => by show (w.heap ++ os)[q]? = w.heap[q]?; rw [Array.getElem?_append_left hq]⟩
theorem decimal_any (n : Int) (w : World) (h0 : -9223372036854775808 ≤ n) (h1 : n ≤ 9223372036854775807) (ht : Tabs w) :
    Calls Tryd.prog 69 #[.int .i64 n] w fun e w' => e = .returned (.string (dS n)) ∧ Below w.heap.size w w' := by
  have HT := Lib.hid ht
  clear ht
  go_enter Tryd.func69, Tryd.ntmps69
  go_wp2_with fail
  refine (Tryd.strconv_Itoa n h0 h1 _ HT.out.tab).mono ?_
  rintro e w' ⟨rfl, k, os, rfl⟩
  go_wp2
  go_ret
  exact ⟨rfl, below_grow _ _ _⟩
theorem fits_yes (n lo hi : Int) (w : World) (h1 : lo ≤ n) (h2 : n ≤ hi) : Calls Tryd.prog 41 #[.int .i64 n, .int .i64 lo, .int .i64 hi] w fun e w' => e = .returned (.bool true) ∧ w = w' := by
  have h := lx.fits_any n lo hi w
  rw [show lx.fitB n lo hi = true from decide_eq_true ⟨h1, h2⟩] at h
  exact h
theorem fits_no (n lo hi : Int) (w : World) (h1 : n < lo ∨ hi < n) : Calls Tryd.prog 41 #[.int .i64 n, .int .i64 lo, .int .i64 hi] w fun e w' => e = .returned (.bool false) ∧ w = w' := by
  have h := lx.fits_any n lo hi w
  rw [show lx.fitB n lo hi = false from decide_eq_false (by omega)] at h
  exact h
theorem within_one (n : Int) (w : World) (b : Nat) (hc : w.cell? ⟨b, 0, none⟩ = some (.int .i64 n)) :
    Calls Tryd.prog 68 #[.slice (some ⟨b, 0, none⟩) 1 1] w fun e w' => e = .returned (.bool (decide (-1048576 ≤ n ∧ n ≤ 1048576))) ∧ w = w' := by
  by_cases hn : -1048576 ≤ n ∧ n ≤ 1048576
  · rw [decide_eq_true hn]
    go_enter Tryd.func68, Tryd.ntmps68
    go_wp2_with fail
    go_loop [7] (fun i => ∃ k : Nat, k ≤ 1 ∧ i = .int .i64 k) (fun i => 1 - (RowKit.intOf i).toNat)
    case atStart => exact ⟨0, by omega, rfl⟩
    case round =>
      obtain ⟨k, hk, rfl⟩ := hrel
      by_cases h0 : k = 0
      · subst h0
        go_wp2_with fail
        refine (fits_yes n (-1048576) 1048576 _ hn.1 hn.2).mono ?_
        rintro e w' ⟨rfl, rfl⟩
        go_wp2
        go_round
        case rel => exact ⟨1, by omega, rfl⟩
        case measure => simp [RowKit.intOf]
      · obtain rfl : k = 1 := by omega
        go_wp2
        go_ret
        exact ⟨rfl, rfl⟩
  · rw [decide_eq_false hn]
    go_enter Tryd.func68, Tryd.ntmps68
    go_wp2_with fail
    go_loop [7] (fun i => i = .int .i64 0) (fun i => 1)
    case atStart => rfl
    case round =>
      subst hrel
      go_wp2_with fail
      refine (fits_no n (-1048576) 1048576 _ (by omega)).mono ?_
      rintro e w' ⟨rfl, rfl⟩
      go_wp2
      go_ret
      exact ⟨rfl, rfl⟩
/-- The number that a text is. -/
def numD (l : List UInt8) : Int × Bool := if (docFold l).2 ≤ 7 ∧ (-1048576 ≤ docNum l ∧ docNum l ≤ 1048576) ∧ itoa (docNum l) = l then (docNum l, true) else (0, false)
theorem numD_some {l : List UInt8} {v : Int} (h0 : -1048576 ≤ v) (h1 : v ≤ 1048576) (h : itoa v = l) : numD l = (v, true) := by
  obtain ⟨a, b⟩ := doc_itoa h0 h1
  rw [h] at a b
  unfold numD
  rw [a, if_pos ⟨b, ⟨h0, h1⟩, h⟩]
theorem numD_none {l : List UInt8} (h : ∀ v, -1048576 ≤ v → v ≤ 1048576 → itoa v ≠ l) : numD l = (0, false) := by
  unfold numD
  rw [if_neg (fun h2 => h _ h2.2.1.1 h2.2.1.2 h2.2.2)]
theorem itoa_len8 {v : Int} (h0 : -1048576 ≤ v) (h1 : v ≤ 1048576) : (itoa v).length ≤ 8 := by
  unfold itoa
  split
  · have := nDigits_le (k := 6) (u := v.natAbs) (by omega)
    rw [List.length_cons, decDigits_length]; omega
  · have := nDigits_le (k := 6) (u := v.toNat) (by omega)
    rw [decDigits_length]; omega
theorem dS_iff {v : Int} {s : ByteArray} : s = dS v ↔ itoa v = s.data.toList := by
  unfold dS
  constructor
  · rintro rfl; simp
  · intro h
    apply ByteArray.ext
    show s.data = (itoa v).toArray
    rw [h]
end Go.Proofs.YthjpjcjmiaojcaaDoor
namespace Go.Proofs.YthjpjcjmiaojcaaDoor
open Go.ChangeShapes Go.WideShapes Go.ChangeAt Go.RowKit Go.Lib Go.Sort

theorem dS_ne {v : Int} {s : ByteArray} (h : dS v ≠ s) (h0 : -1048576 ≤ v) (h1 : v ≤ 1048576) (ha : Lib.atoiAll s.data.toList = .ok v) : numD s.data.toList = (0, false) :=
  numD_none (fun v2 g0 g1 e => by
    have := atoi_itoa (n := v2) (by omega) (by omega)
    rw [e, ha] at this
    obtain rfl : v = v2 := by injection this
    exact h (dS_iff.2 e).symm)
theorem numD_out {v : Int} {l : List UInt8} (ha : Lib.atoiAll l = .ok v) (hn : ¬ (-1048576 ≤ v ∧ v ≤ 1048576)) : numD l = (0, false) :=
  numD_none (fun v2 g0 g1 e => by
    have := atoi_itoa (n := v2) (by omega) (by omega)
    rw [e, ha] at this
    obtain rfl : v = v2 := by injection this
    exact hn ⟨g0, g1⟩)
theorem numD_bad {l : List UInt8} (ha : ∀ v, Lib.atoiAll l ≠ .ok v) : numD l = (0, false) :=
  numD_none (fun v2 g0 g1 e => by
    have := atoi_itoa (n := v2) (by omega) (by omega)
    rw [e] at this
    exact ha _ this)
theorem numD_long {l : List UInt8} (h : 8 < l.length) : numD l = (0, false) :=
  numD_none (fun v2 g0 g1 e => by
    have := itoa_len8 g0 g1
    rw [e] at this; omega)
theorem str_ne {a b : ByteArray} (h : a ≠ b) : (a.toList == b.toList) = false := by
  cases e : (a.toList == b.toList)
  · rfl
  · exfalso; apply h
    have h2 := beq_iff_eq.1 e
    rw [ByteArray.toList_eq, ByteArray.toList_eq] at h2
    exact bytes_inj h2
theorem below_conv {w w' : World} (h : w' = w ∨ ∃ t, w' = Lib.bytesWorld w 5 t) : Below w.heap.size w w' := by
  rcases h with rfl | ⟨t, rfl⟩
  · exact Below.refl _ _
  · exact Lib.bytesWorld_below _ _ _
set_option maxRecDepth 20000 in
set_option maxHeartbeats 2000000 in
theorem number_any (s : ByteArray) (w : World) (hs : s.size ≤ 20000) (ht : Tabs w) :
    Calls Tryd.prog 53 #[.string s] w fun e w' => e = .returned (.tuple #[.int .i64 (numD s.data.toList).1, .bool (numD s.data.toList).2]) ∧ Below w.heap.size w w' := by
  have HS := Lib.hid hs
  have HT := Lib.hid ht
  clear hs ht
  go_enter Tryd.func53, Tryd.ntmps53
  by_cases hb : 8 < s.size
  · have hR := Lib.hid (numD_long (l := s.data.toList) (by rw [Array.length_toList]; exact hb))
    have e : ¬ (s.size : Int) ≤ 8 := by omega
    clear hb
    go_wp2
    go_ret2
    rw [hR.out]
    exact ⟨rfl, Below.refl _ _⟩
  · have e : ¬ (8 : Int) < (s.size : Int) := by omega
    go_wp2_with fail
    rcases hA : Lib.atoiAll s.data.toList with v | _ | _
    · refine (Tryd.strconv_Atoi_ok s (by have := HS.out; omega) v hA _).mono ?_
      rintro e1 w1 ⟨rfl, hw1⟩
      have HA := Lib.hid hA
      have H1 : Hid (Below w.heap.size w w1) := Lib.hid (below_conv hw1)
      have HT1 : Hid (Tabs w1) := Lib.hid (HT.out.below H1.out)
      clear hA hw1
      by_cases hn : -1048576 ≤ v ∧ v ≤ 1048576
      · have HN := Lib.hid hn
        by_cases hd : dS v = s
        · have hR : Hid (numD s.data.toList = (v, true)) := Lib.hid (numD_some hn.1 hn.2 (dS_iff.1 hd.symm))
          have HD := Lib.hid hd
          clear hn hd
          go_wp2_with fail
          refine (within_one v _ w1.heap.size (by show (match (w1.alloc (Obj.cells #[Value.int IntKind.i64 v] 3)).heap[w1.heap.size]? with | some (Obj.cells c elem frozen) => c[0]? | x => none) = _; rw [World.alloc_heap_new]; rfl)).mono ?_
          rw [decide_eq_true HN.out]
          rintro e2 w2 ⟨rfl, rfl⟩
          have H2 : Hid (Below w.heap.size w (w1.alloc (Obj.cells #[Value.int IntKind.i64 v] 3))) := Lib.hid (H1.out.alloc H1.out.size _)
          have HT2 : Hid (Tabs (w1.alloc (Obj.cells #[Value.int IntKind.i64 v] 3))) := Lib.hid (HT.out.below H2.out)
          generalize (w1.alloc (Obj.cells #[Value.int IntKind.i64 v] 3)) = w2 at H2 HT2 ⊢
          go_wp2_with fail
          refine (decimal_any v _ (by have := HN.out; omega) (by have := HN.out; omega) HT2.out).mono ?_
          rintro e3 w3 ⟨rfl, hw3⟩
          have H3 : Hid (Below w.heap.size w w3) := Lib.hid (H2.out.trans (hw3.mono H2.out.size))
          rw [HD.out]
          clear hw3
          go_wp2
          go_ret2
          rw [hR.out]
          exact ⟨rfl, H3.out⟩
        · have hR : Hid (numD s.data.toList = (0, false)) := Lib.hid (dS_ne hd hn.1 hn.2 HA.out)
          clear hn
          go_wp2_with fail
          refine (within_one v _ w1.heap.size (by show (match (w1.alloc (Obj.cells #[Value.int IntKind.i64 v] 3)).heap[w1.heap.size]? with | some (Obj.cells c elem frozen) => c[0]? | x => none) = _; rw [World.alloc_heap_new]; rfl)).mono ?_
          rw [decide_eq_true HN.out]
          rintro e2 w2 ⟨rfl, rfl⟩
          have H2 : Hid (Below w.heap.size w (w1.alloc (Obj.cells #[Value.int IntKind.i64 v] 3))) := Lib.hid (H1.out.alloc H1.out.size _)
          have HT2 : Hid (Tabs (w1.alloc (Obj.cells #[Value.int IntKind.i64 v] 3))) := Lib.hid (HT.out.below H2.out)
          generalize (w1.alloc (Obj.cells #[Value.int IntKind.i64 v] 3)) = w2 at H2 HT2 ⊢
          go_wp2_with fail
          refine (decimal_any v _ (by have := HN.out; omega) (by have := HN.out; omega) HT2.out).mono ?_
          rintro e3 w3 ⟨rfl, hw3⟩
          have H3 : Hid (Below w.heap.size w w3) := Lib.hid (H2.out.trans (hw3.mono H2.out.size))
          have hq := str_ne hd
          clear hw3 hd
          generalize dS v = q at hq ⊢
          go_wp2
          go_ret2
          rw [hR.out]
          exact ⟨rfl, H3.out⟩
      · have hR : Hid (numD s.data.toList = (0, false)) := Lib.hid (numD_out HA.out hn)
        have HN := Lib.hid hn
        clear hn
        go_wp2_with fail
        refine (within_one v _ w1.heap.size (by show (match (w1.alloc (Obj.cells #[Value.int IntKind.i64 v] 3)).heap[w1.heap.size]? with | some (Obj.cells c elem frozen) => c[0]? | x => none) = _; rw [World.alloc_heap_new]; rfl)).mono ?_
        rw [decide_eq_false HN.out]
        rintro e2 w2 ⟨rfl, rfl⟩
        have H2 : Hid (Below w.heap.size w (w1.alloc (Obj.cells #[Value.int IntKind.i64 v] 3))) := Lib.hid (H1.out.alloc H1.out.size _)
        generalize (w1.alloc (Obj.cells #[Value.int IntKind.i64 v] 3)) = w2 at H2 ⊢
        go_wp2
        go_ret2
        rw [hR.out]
        exact ⟨rfl, H2.out⟩
    · obtain ⟨te, pe, hc⟩ := HT.out.syn
      refine (Tryd.strconv_Atoi_fault s (by have := HS.out; omega) (fun v h => by rw [hA] at h; cases h) (by rw [hA]; exact fun h => by cases h) _ _ hc (.inr ⟨te, pe, rfl⟩)).mono ?_
      rintro e1 w1 ⟨N, rfl, _, _, hw1⟩
      have hR := Lib.hid (numD_bad (l := s.data.toList) (fun v => by rw [hA]; exact fun h => by cases h))
      have HA := Lib.hid hA
      have H1 : Hid (Below w.heap.size w w1) := Lib.hid hw1
      clear hA hw1
      go_wp2
      go_ret2
      rw [hR.out]
      exact ⟨rfl, H1.out⟩
    · obtain ⟨te, pe, hc⟩ := HT.out.rng
      refine (Tryd.strconv_Atoi_range s (by have := HS.out; omega) hA _ _ hc (.inr ⟨te, pe, rfl⟩)).mono ?_
      rintro e1 w1 ⟨N, rfl, _, _, hw1⟩
      have hR := Lib.hid (numD_bad (l := s.data.toList) (fun v => by rw [hA]; exact fun h => by cases h))
      have HA := Lib.hid hA
      have H1 : Hid (Below w.heap.size w w1) := Lib.hid hw1
      clear hA hw1
      go_wp2
      go_ret2
      rw [hR.out]
      exact ⟨rfl, H1.out⟩
end Go.Proofs.YthjpjcjmiaojcaaDoor
