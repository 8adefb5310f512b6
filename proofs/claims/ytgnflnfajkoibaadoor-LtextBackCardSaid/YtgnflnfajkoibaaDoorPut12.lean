/- Contracts that the claim stands on, several texts in one: LtxSettle, LtxShut, LtxGoOn, LtxBegin. -/
import Derived.Test.YtgnflnfajkoibaaDoorPut1
import Derived.Test.YtgnflnfajkoibaaDoorPut2
import Derived.Test.YtgnflnfajkoibaaDoorPut3
import Derived.Test.YtgnflnfajkoibaaDoorPut4
import Derived.Test.YtgnflnfajkoibaaDoorPut5
import Derived.Test.YtgnflnfajkoibaaDoorPut6
import Derived.Test.YtgnflnfajkoibaaDoorPut7
import Derived.Test.YtgnflnfajkoibaaDoorPut8
import Derived.Test.YtgnflnfajkoibaaDoorPut9
import Derived.Test.YtgnflnfajkoibaaDoorPut10
import Derived.Test.YtgnflnfajkoibaaDoorPut11
namespace Go.Proofs.YtgnflnfajkoibaaDoor.tx
open Go.ChangeShapes Go.WideShapes Go.ChangeAt Go.RowKit Go.Deep sr lt

theorem oo_take {base : Nat} {w : World} {A : Option Addr} {c m : Nat} {l : List Opr} (h : OO base w (.slice A m c) l) (n : Nat) (hn : n ≤ l.length) : OO base w (.slice A n c) (l.take n) := by
  obtain ⟨h1, h2⟩ := h
  rcases h2 with ⟨e, h0⟩ | ⟨g, cap, cur, e, hb, hg, h3, h4, h5, h6⟩
  · have hn0 : n = 0 := by omega
    injection e with e1 e2 e3
    subst e1 e3 hn0
    exact World.ownsRow_nil _ _ _ _
  · injection e with e1 e2 e3
    subst e1 e3
    have hl : (l.take n).length = n := by simp; omega
    have hfl : flatR oC (l.take n) = (flatR oC l).take (n * 5) := by
      have e2 : flatR oC l = flatR oC (l.take n) ++ flatR oC (l.drop n) := by rw [← flatR_append, List.take_append_drop]
      have e3 : (flatR oC (l.take n)).length = n * 5 := by rw [flatR_length oC_len, hl]
      rw [e2, ← e3, List.take_left']
      rfl
    refine ⟨by rw [flatR_length oC_len], .inr ⟨g, c, cur, by rw [hl], hb, hg, by rw [hl]; omega, h4, h5, ?_⟩⟩
    rw [hl, hfl, ← h6, List.take_take]
    congr 1
    omega
theorem oo_cap {base : Nat} {w : World} {A : Option Addr} {c m : Nat} {l : List Opr} (h : OO base w (.slice A m c) l) : m = l.length ∧ m ≤ c ∧ RS oC 5 w A l := by
  obtain ⟨A', c', e, hr⟩ := OR.rs oC_len h
  injection e with e1 e2 e3
  subst e1 e2 e3
  refine ⟨rfl, ?_, hr⟩
  rcases h.2 with ⟨e, h0⟩ | ⟨g, cap, cur, e, _, _, h3, _⟩
  · injection e with e1 e2 e3
    omega
  · injection e with e1 e2 e3
    subst e3
    omega
set_option maxRecDepth 20000 in
theorem headO_run (B : Option Addr) (k n d : Nat) (h : k ≤ n) (h2 : n ≤ d) (W : World) : (Instr.sliceAt 52 (.slice B n d) none (some (.int .i64 (k : Int))) none).run Tryd.prog W = .ok (.slice B k d) W := by
  have hsz : (sizeOf (Tryd.prog.elem 52)).run Tryd.prog W = .ok 5 W := by simp [go_sem]
  rw [run_sliceAt_slice (P := Tryd.prog) W 52 _ _ _ _ Tryd.underlying52, run_slice_h (P := Tryd.prog) W 52 B n d Tryd.underlying52 .i64 k (by omega) (by omega), hsz]
  cases B <;> simp [Result.andThen, sliced, Addr.add]
/-- An operation that waits, where it lies. -/
theorem opr_at {w : World} {A : Option Addr} {l : List Opr} (h : RS oC 5 w A l) {i : Nat} (hi : i < l.length) : ∃ b off, A = some ⟨b, off, none⟩ ∧ b < w.heap.size ∧ w.cell? ⟨b, off + i * 5, none⟩ = some (.int .i64 (l.getD i default).op) ∧ w.cell? ⟨b, off + i * 5 + 4, none⟩ = some (.int .i64 (l.getD i default).rt) := by
  obtain ⟨b, off, e, hb, hc⟩ := h (by omega)
  exact ⟨b, off, e, hb, hc i hi 0 (by omega), hc i hi 4 (by omega)⟩
theorem stF_take {b : Int} {P : List Opr} {k : Nat} (hk : k < P.length) : stF b (P.take (k + 1)).reverse = if b < (P.getD k default).rt then (((P.getD k default).op, 0) :: (stF b (P.take k).reverse).1, (stF b (P.take k).reverse).2) else ([], (P.take (k + 1)).reverse) := by
  have e : P.getD k default = P[k] := by simp [List.getD, hk]
  have e2 : (P.take (k + 1)).reverse = P[k] :: (P.take k).reverse := by rw [List.take_succ_eq_append_getElem hk]; simp
  rw [e2, stF, e]
set_option maxRecDepth 20000 in
set_option maxHeartbeats 8000000 in
theorem settle_any (rb : Nat) (NV : Value) (S : Rd) (vn vp : Value) (b : Int) (w : World) (h : RdW w rb NV S vn vp) (hl : S.nd.length + S.pd.length ≤ 90000) :
    Calls Tryd.prog 77 #[.pointer (some ⟨rb, 0, none⟩), .int .i64 b] w (UnitP tsN w rb NV (setF b S)) := by
  obtain ⟨A, c, e, hrs⟩ := OR.rs oC_len h.p
  subst e
  obtain ⟨p, HPL⟩ : ∃ p, Hid (p = S.pd.length) := ⟨_, Lib.hid rfl⟩
  rw [← HPL.out] at h
  have HCAP := Lib.hid (oo_cap h.p)
  have hpc : p ≤ c := HCAP.out.2.1
  have H := Lib.hid h
  have HL := Lib.hid hl
  have hp9 : p ≤ 90000 := by have := HPL.out; omega
  have c3 := h.c.c3
  clear h hl hrs
  go_enter Tryd.func77, Tryd.ntmps77
  go_wp2
  clear c3
  go_loopw [4] (fun iv wr => ∃ (k : Nat) (nd : List (Int × Int)) (vn' : Value), k ≤ p ∧ iv = .int .i64 ((k : Int) - 1) ∧ Hid (RdW wr rb NV ⟨S.bg, nd, S.pd⟩ vn' (.slice A p c)) ∧ Hid (nd.length + k ≤ 90000) ∧ Hid (S.nd ++ (stF b S.pd.reverse).1 = nd ++ (stF b (S.pd.take k).reverse).1 ∧ (stF b S.pd.reverse).2 = (stF b (S.pd.take k).reverse).2) ∧ Hid (Below rb w wr) ∧ Hid (Kp tsN rb w wr)) (fun iv _ => ((intOf iv) + 1).toNat)
  case atStart => exact ⟨p, S.nd, vn, Nat.le_refl _, rfl, H, Lib.hid (by have := HPL.out; have := HL.out; omega), Lib.hid (by rw [HPL.out, List.take_length]; exact ⟨rfl, rfl⟩), Lib.hid (Below.refl _ _), Lib.hid (Kp.refl _ _ _)⟩
  case round =>
    obtain ⟨k, nd, vn', hk, rfl, HRD, HND, HST, HB, HKP⟩ := hrel
    have HFIN : Hid (∀ (j : Nat), j ≤ p → (stF b (S.pd.take k).reverse = ([], (S.pd.take j).reverse)) → k = j → ∀ W, Rc W rb NV (fv S.bg rb) vn' (.slice A j c) → ON (rb + 1) W vn' nd → OO (rb + 1) W (.slice A j c) (S.pd.take j) → Below rb w W → Kp tsN rb w W → StP tsN w rb NV (setF b S) W) := Lib.hid (fun j hj hs hkj W h1 h2 h3 h4 h5 => by
      refine ⟨⟨vn', .slice A j c, h1, ?_, ?_⟩, h4, h5⟩
      · show ON (rb + 1) W vn' (S.nd ++ (stF b S.pd.reverse).1)
        rw [HST.out.1, hs, List.append_nil]
        exact h2
      · show OO (rb + 1) W _ (stF b S.pd.reverse).2.reverse
        rw [HST.out.2, hs, List.reverse_reverse]
        exact h3)
    have c3 := HRD.out.c.c3
    have f3 := HRD.out.c.f 3
    rcases k with _ | j
    · have EH := headO_run A 0 p c (Nat.zero_le _) hpc
      have e0 : ((0 : Nat) : Int) - 1 = -1 := rfl
      rw [e0]
      change ∀ W, (Instr.sliceAt 52 (.slice A p c) none (some (.int .i64 (0 : Int))) none).run Tryd.prog W = .ok (.slice A 0 c) W at EH
      have HRD2 := HRD
      have HOUT : Hid (StP tsN w rb NV (setF b S) (wr.setCell ⟨rb, 3, none⟩ (.slice A 0 c))) := Lib.hid (HFIN.out 0 (Nat.zero_le _) (by rw [List.take_zero]; rfl) rfl _ (HRD.out.c.set3 _) (ownsRow_setCell_below HRD.out.n (Nat.lt_succ_self _) _) (ownsRow_setCell_below (oo_take HRD.out.p 0 (Nat.zero_le _)) (Nat.lt_succ_self _) _) (HB.out.setCell (Nat.le_refl _) _) (HKP.out.set HB.out.size _ _))
      go_wp2
      go_end0
      exact ⟨rfl, HOUT.out⟩
    · have hj : j < S.pd.length := by have := HPL.out; omega
      have hjp : j < p := by omega
      obtain ⟨ab, off, eA, hab, q0, q4⟩ := opr_at (oo_cap HRD.out.p).2.2 hj
      subst eA
      obtain ⟨op, rt, HOP⟩ : ∃ op rt, Hid ((S.pd.getD j default).op = op ∧ (S.pd.getD j default).rt = rt) := ⟨_, _, Lib.hid ⟨rfl, rfl⟩⟩
      dsimp only at q0 q4
      rw [HOP.out.1] at q0
      rw [HOP.out.2] at q4
      have e1 : ((j + 1 : Nat) : Int) - 1 = (j : Int) := by omega
      rw [e1]
      by_cases hbr : b < rt
      · have HS2 : Hid (stF b (S.pd.take (j + 1)).reverse = ((op, 0) :: (stF b (S.pd.take j).reverse).1, (stF b (S.pd.take j).reverse).2)) := Lib.hid (by rw [stF_take hj, HOP.out.2, HOP.out.1, if_pos hbr])
        obtain ⟨A2, c2', l, e2⟩ := or_form encN_len HRD.out.n
        subst e2
        go_upto_region 2 with (fail)
        have HRS : Hid (rb + 1 ≤ wr.heap.size) := Lib.hid HRD.out.c.lt
        have c2 := HRD.out.c.c2
        have f2 := HRD.out.c.f 2
        have c2a := ((below_one wr (.cells #[.int .i64 op, .int .i64 0] 39)).cell (p := ⟨rb, 2, none⟩) HRD.out.c.lt).trans c2
        refine wp_region_noPanic ?_
        go_region_law
          (first
            | (refine step_append_own encN_len encN_one Tryd.underlying22 infoN rfl (by decide) (by decide) (rb + 1) _ (by rfl) (.tmp 29) (.tmp 39) (by rfl) (by rfl) _ nd (by rfl) (OR.below HRD.out.n (by first | exact (below_one _ _).drew | exact (below_one _ _) | exact (Below.refl _ _).drew.trans (below_one _ _))) (op, 0) _ (by rfl) (by rfl) (by have := HND.out; omega) (by have := HRS.out; first | omega | (simp; omega)) _ (by first | exact World.alloc_heap_new _ _) ?_; intro v5 w5 ho5 hb5 hg5; obtain ⟨A5, c5, q5, rfl⟩ := or_form encN_len ho5; have HO5 := Lib.hid ho5; have HB5 : Hid (Below (rb + 1) wr w5) := Lib.hid (by first | exact ((Below.refl _ _).alloc HRS.out _).drew.trans hb5 | exact ((Below.refl _ _).alloc HRS.out _).trans hb5 | exact ((Below.refl _ _).drew.alloc HRS.out _).trans hb5); have HC5 := Lib.hid (HRD.out.c.lower HB5.out (Nat.lt_succ_self _)); have HP5 : Hid (OO (rb + 1) w5 (.slice (some ⟨ab, off, none⟩) p c) S.pd) := Lib.hid (by first | exact on_apart (World.ownsRow.drew (World.ownsRow.alloc HRD.out.n _)) (World.ownsRow.drew (World.ownsRow.alloc HRD.out.p _)) hg5 | exact on_apart (World.ownsRow.alloc HRD.out.n _) (World.ownsRow.alloc HRD.out.p _) hg5 | exact on_apart (World.ownsRow.alloc (World.ownsRow.drew HRD.out.n) _) (World.ownsRow.alloc (World.ownsRow.drew HRD.out.p) _) hg5); have HK5 : Hid (Kp tsN rb wr w5) := Lib.hid (Kp.grow (by first | exact (below_one _ _).drew | exact (below_one _ _) | exact (Below.refl _ _).drew.trans (below_one _ _)) hg5 HRD.out.n (by decide)); have k2 := HC5.out.c2; have k3 := HC5.out.f 2; clear ho5 hb5 hg5)
            | fail)
        all_goals
          refine NoPanic.normal ?_
          have HNEW : Hid (RdW (w5.setCell ⟨rb, 2, none⟩ (.slice A5 q5 c5)) rb NV ⟨S.bg, nd ++ [(op, 0)], S.pd⟩ (.slice A5 q5 c5) (.slice (some ⟨ab, off, none⟩) p c)) := Lib.hid ⟨HC5.out.set2 _, ownsRow_setCell_below HO5.out (Nat.lt_succ_self _) _, ownsRow_setCell_below HP5.out (Nat.lt_succ_self _) _⟩
          go_wp2
          go_roundw
          · exact ⟨j, nd ++ [(op, 0)], _, by omega, rfl, HNEW, Lib.hid (by have := HND.out; simp; omega), Lib.hid (by rw [HST.out.1, HST.out.2, HS2.out]; simp), Lib.hid ((HB.out.trans (HB5.out.mono (Nat.le_succ _))).setCell (Nat.le_refl _) _), Lib.hid ((HKP.out.trans HK5.out HB.out.size).set (Nat.le_trans HB.out.size HB5.out.size) _ _)⟩
          · simp [intOf]
      · have HS2 : Hid (stF b (S.pd.take (j + 1)).reverse = ([], (S.pd.take (j + 1)).reverse)) := Lib.hid (by rw [stF_take hj, HOP.out.2, if_neg hbr])
        have EH := headO_run (some ⟨ab, off, none⟩) (j + 1) p c hk hpc
        have HOUT : Hid (StP tsN w rb NV (setF b S) (wr.setCell ⟨rb, 3, none⟩ (.slice (some ⟨ab, off, none⟩) (j + 1) c))) := Lib.hid (HFIN.out (j + 1) hk HS2.out rfl _ (HRD.out.c.set3 _) (ownsRow_setCell_below HRD.out.n (Nat.lt_succ_self _) _) (ownsRow_setCell_below (oo_take HRD.out.p (j + 1) hj) (Nat.lt_succ_self _) _) (HB.out.setCell (Nat.le_refl _) _) (HKP.out.set HB.out.size _ _))
        go_wp2
        go_end0
        exact ⟨rfl, HOUT.out⟩
end Go.Proofs.YtgnflnfajkoibaaDoor.tx
namespace Go.Proofs.YtgnflnfajkoibaaDoor.tx
open Go.ChangeShapes Go.WideShapes Go.ChangeAt Go.RowKit Go.Deep sr lt

def BoolQ (ts : List TypeId) (w : World) (rb : Nat) (NV : Value) (r : Bool × Rd) (e : Ending) (w' : World) : Prop := e = .returned (.bool r.1) ∧ StP ts w rb NV r.2 w'
theorem StP.drew {ts : List TypeId} {w w1 : World} {rb : Nat} {NV : Value} {S : Rd} (h : StP ts w rb NV S w1) : StP ts w rb NV S w1.drew := by
  obtain ⟨⟨vn, vp, h1⟩, h2, h3⟩ := h
  exact ⟨⟨vn, vp, h1.below (Below.refl _ _).drew⟩, h2.drew, h3.trans (Kp.below (Below.refl _ _).drew) h2.size⟩
theorem dropLast_take' {α : Type} (l : List α) (n : Nat) (h : l.length = n + 1) : l.dropLast = l.take n := by rw [List.dropLast_eq_take, h]; rfl
set_option maxRecDepth 20000 in
set_option maxHeartbeats 4000000 in
theorem shut_any (rb : Nat) (NV : Value) (S : Rd) (vn vp : Value) (w : World) (h : RdW w rb NV S vn vp) (hl : S.nd.length + S.pd.length ≤ 90000) :
    Calls Tryd.prog 78 #[.pointer (some ⟨rb, 0, none⟩)] w (BoolQ tsN w rb NV (shF S)) := by
  have HS := Lib.hid (settle_any rb NV S vn vp 0 w h hl)
  have HSL := Lib.hid (set_len 0 S)
  obtain ⟨R, HR⟩ : ∃ R, Hid (setF 0 S = R) := ⟨_, Lib.hid rfl⟩
  have HBG : Hid (S.bg = R.bg) := Lib.hid (by rw [← HR.out]; rfl)
  have HV : Hid (shF S = if R.pd = [] then (false, R) else (true, ⟨R.bg, R.nd, R.pd.dropLast⟩)) := Lib.hid (by unfold shF; rw [HR.out, HBG.out])
  obtain ⟨z, HZ⟩ : ∃ z, Hid (shF S = z) := ⟨_, Lib.hid rfl⟩
  rw [HZ.out]
  rw [HR.out] at HSL HS
  clear h
  go_enter Tryd.func78, Tryd.ntmps78
  go_wp2_with fail
  refine HS.out.mono ?_
  rintro e w1 ⟨rfl, ⟨vn1, vp1, h1⟩, hb1, hk1⟩
  obtain ⟨A, c, p, e2⟩ := or_form oC_len h1.p
  subst e2
  have HCAP := Lib.hid (oo_cap h1.p)
  have hpc := HCAP.out.2.1
  have hp9 : p ≤ 90000 := by have := HCAP.out.1; have := HSL.out; omega
  have H1 := Lib.hid h1
  have HB1 := Lib.hid hb1
  have HK1 := Lib.hid hk1
  have c3 := h1.c.c3
  have f3 := h1.c.f 3
  clear h1 hb1 hk1
  by_cases hp : p = 0
  · have HE : Hid (R.pd = []) := Lib.hid (List.eq_nil_of_length_eq_zero (by rw [← HCAP.out.1]; exact hp))
    have HOUT : Hid (BoolQ tsN w rb NV z (.returned (.bool false)) w1) := Lib.hid (by
      rw [← HZ.out, HV.out, if_pos HE.out]
      exact ⟨rfl, ⟨_, _, H1.out⟩, HB1.out, HK1.out⟩)
    subst hp
    go_wp2
    go_ret
    exact HOUT.out
  · have HE : Hid (R.pd ≠ []) := Lib.hid (fun e => hp (by rw [HCAP.out.1, e]; rfl))
    have hp1 : 1 ≤ p := by omega
    obtain ⟨j, hj⟩ : ∃ j, p = j + 1 := ⟨p - 1, by omega⟩
    have HJ := Lib.hid hj
    have EH := headO_run A j p c (by omega) hpc
    have hw : IntKind.i64.wrap (j : Int) = (j : Int) := IntWalk.i64_in _ (by omega)
    have hjc : j ≤ c := by omega
    have HOUT : Hid (BoolQ tsN w rb NV z (.returned (.bool true)) (w1.setCell ⟨rb, 3, none⟩ (.slice A j c))) := Lib.hid (by
      rw [← HZ.out, HV.out, if_neg HE.out]
      refine ⟨rfl, ⟨vn1, .slice A j c, ⟨H1.out.c.set3 _, ownsRow_setCell_below H1.out.n (Nat.lt_succ_self _) _, ?_⟩⟩, HB1.out.setCell (Nat.le_refl _) _, HK1.out.set HB1.out.size _ _⟩
      have hd : R.pd.dropLast = R.pd.take j := dropLast_take' _ _ (by rw [← HCAP.out.1]; have := HJ.out; omega)
      show OO (rb + 1) _ _ R.pd.dropLast
      rw [hd]
      exact ownsRow_setCell_below (oo_take H1.out.p j (by rw [← HCAP.out.1]; have := HJ.out; omega)) (Nat.lt_succ_self _) _)
    go_upto_region 4 with (fail)
    refine wp_region_noPanic ?_
    go_region_law (fail)
    all_goals
      refine NoPanic.normal ?_
      go_wp2
      go_ret
      exact ⟨HOUT.out.1, HOUT.out.2.drew⟩
end Go.Proofs.YtgnflnfajkoibaaDoor.tx
namespace Go.Proofs.YtgnflnfajkoibaaDoor.tx
open Go.ChangeShapes Go.WideShapes Go.ChangeAt Go.RowKit Go.Deep sr lt

/-- A token as a value. -/
def tkV (k num pos : Int) (s : ByteArray) : Value := .agg #[.int .i64 k, .int .i64 num, .int .i64 pos, .string s]
abbrev tkC (k num pos : Int) (s : ByteArray) : Obj := .cells #[.int .i64 k, .int .i64 num, .int .i64 pos, .string s] 72
abbrev opB (o : Opr) : Obj := .cells #[.int .i64 o.op, .string (sgA o), .int .i64 o.bd, .int .i64 o.lf, .int .i64 o.rt] 58
theorem Kp.stay {ts : List TypeId} {rb : Nat} {w w' : World} (h : Kp ts rb w w') {b : Nat} {c : Array Value} {t : TypeId} {f : Nat × Nat} (hb : w.heap[b]? = some (.cells c t f)) (hr : b ≠ rb) (ht : t ∉ ts) : w'.heap[b]? = some (.cells c t f) := by
  have hlt : b < w.heap.size := by
    rcases Nat.lt_or_ge b w.heap.size with h | h
    · exact h
    · rw [Array.getElem?_eq_none h] at hb; cases hb
  rw [h b hlt hr (fun c2 t2 f2 e => by rw [hb] at e; injection e with e; injection e with _ e2; exact e2 ▸ ht)]
  exact hb
theorem cell_of {w : World} {b : Nat} {cs : Array Value} {t : TypeId} {f : Nat × Nat} (h : w.heap[b]? = some (.cells cs t f)) (i : Nat) : w.cell? ⟨b, i, none⟩ = cs[i]? := by simp [World.cell?, h]
theorem goF_set {k : Int} {s : List UInt8} {S : Rd} {o : Opr} (h : wrO s = some o) (hl : 0 < o.lf) : goF k s S = (true, ⟨true, (setF o.bd S).nd, (setF o.bd S).pd ++ [o]⟩) := by
  unfold goF
  rw [h]
  exact if_pos hl
theorem goF_else {k : Int} {s : List UInt8} {S : Rd} (h : ∀ o, wrO s = some o → ¬ 0 < o.lf) : goF k s S = if s = [41] then shF S else if k = 0 then (decide ((setF 0 S).pd = []), setF 0 S) else (false, S) := by
  unfold goF
  cases e : wrO s with
  | none => rfl
  | some o => exact if_neg (h o e)
set_option maxRecDepth 20000 in
set_option maxHeartbeats 8000000 in
theorem goOn_any (rb : Nat) (NV : Value) (S : Rd) (vn vp : Value) (k num pos : Int) (s : ByteArray) (w : World) (h : RdW w rb NV S vn vp) (hO : OpsW w) (hl : S.nd.length + S.pd.length ≤ 80000) :
    Calls Tryd.prog 71 #[.pointer (some ⟨rb, 0, none⟩), tkV k num pos s] w (BoolQ tsO w rb NV (goF k s.data.toList S)) := by
  obtain ⟨z, HZ⟩ : ∃ z, Hid (goF k s.data.toList S = z) := ⟨_, Lib.hid rfl⟩
  rw [HZ.out]
  have H := Lib.hid h
  have HO := Lib.hid hO
  have HL := Lib.hid hl
  obtain ⟨r, HR⟩ : ∃ r, Hid (wrO s.data.toList = r) := ⟨_, Lib.hid rfl⟩
  clear h hO hl
  unfold tkV
  go_enter Tryd.func71, Tryd.ntmps71
  go_wp2_with fail
  refine (written_any s _ (HO.out.keep (below_one _ _))).mono ?_
  rw [HR.out]
  rintro e w2 ⟨rfl, hb2⟩
  obtain ⟨o, HOO⟩ : ∃ o, Hid (r.getD brO = o) := ⟨_, Lib.hid rfl⟩
  obtain ⟨q, HQ⟩ : ∃ q, Hid (r.isSome = q) := ⟨_, Lib.hid rfl⟩
  rw [HOO.out, HQ.out]
  unfold oV
  have ht2 : w2.heap[w.heap.size]? = some (tkC k num pos s) := (hb2.block _ (by simp)).trans (World.alloc_heap_new _ _)
  have hb20 : Below w.heap.size w w2 := (below_one w _).trans (hb2.mono (by simp))
  obtain ⟨w3, HW3⟩ : ∃ w3, w3 = w2.alloc (.cells #[.int .i64 o.op, .string (sgA o), .int .i64 o.bd, .int .i64 o.lf, .int .i64 o.rt] 58) := ⟨_, rfl⟩
  have hb23 : Below w2.heap.size w2 w3 := by rw [HW3]; exact below_one _ _
  have hb3 : Below w.heap.size w w3 := hb20.trans (hb23.mono hb20.size)
  have HBR : Hid (Below rb w w3) := Lib.hid (hb3.mono (Nat.le_of_lt H.out.c.lt))
  have HKP : Hid (Kp tsO rb w w3) := Lib.hid (Kp.below hb3)
  have H3 := Lib.hid (H.out.below hb3)
  have htz : w.heap.size < w2.heap.size := Nat.lt_of_lt_of_le (by simp) hb2.size
  have ht3 : w3.heap[w.heap.size]? = some (tkC k num pos s) := (hb23.block _ htz).trans ht2
  obtain ⟨ob, HOB⟩ : ∃ ob, Hid (ob = w2.heap.size) := ⟨_, Lib.hid rfl⟩
  have HP3 : Hid (w3.heap[ob]? = some (opB o)) := Lib.hid (by rw [HOB.out, HW3]; exact World.alloc_heap_new _ _)
  have HN3 : Hid (ob ≠ rb) := Lib.hid (by rw [HOB.out]; have := H.out.c.lt; have := hb20.size; omega)
  have t0 : w3.cell? ⟨w.heap.size, 0, none⟩ = some (.int .i64 k) := cell_of ht3 0
  have t3 : w3.cell? ⟨w.heap.size, 3, none⟩ = some (.string s) := cell_of ht3 3
  have o0 : w3.cell? ⟨ob, 0, none⟩ = some (.int .i64 o.op) := cell_of HP3.out 0
  have o1 : w3.cell? ⟨ob, 1, none⟩ = some (.string (sgA o)) := cell_of HP3.out 1
  have o2 : w3.cell? ⟨ob, 2, none⟩ = some (.int .i64 o.bd) := cell_of HP3.out 2
  have o3 : w3.cell? ⟨ob, 3, none⟩ = some (.int .i64 o.lf) := cell_of HP3.out 3
  have o4 : w3.cell? ⟨ob, 4, none⟩ = some (.int .i64 o.rt) := cell_of HP3.out 4
  go_upto_region 2 with (fail)
  rw [← HOB.out, ← HW3]
  clear HW3 HOB hb2 hb20 hb23 hb3 ht2 ht3 htz
  cases r with
  | none =>
    obtain rfl : q = false := HQ.out.symm
    have HNO : Hid (∀ o' : Opr, (none : Option Opr) = some o' → ¬ 0 < o'.lf) := Lib.hid (fun o' e => by cases e)
    clear HQ
    · skip
      have HV : Hid (z = if s.data.toList = [41] then shF S else if k = 0 then (decide ((setF 0 S).pd = []), setF 0 S) else (false, S)) := Lib.hid (by rw [← HZ.out]; exact goF_else (fun o' ho' => HNO.out o' (HR.out.symm.trans ho')))
      by_cases hs : s = ⟨#[41]⟩
      · have HV2 : Hid (shF S = z) := Lib.hid (by rw [HV.out, if_pos (by rw [hs])])
        have HSH := Lib.hid (shut_any rb NV S vn vp w3 H3.out (by have := HL.out; omega))
        rw [HV2.out] at HSH
        subst hs
        go_wp2_with fail
        refine HSH.out.mono ?_
        rintro e w4 ⟨rfl, hst4⟩
        have HST4 := Lib.hid (StP.trans HBR.out HKP.out hst4 (ts := tsO) (by decide))
        clear hst4
        go_wp2
        go_ret
        exact ⟨rfl, HST4.out⟩
      · have HSN : Hid (s.data.toList ≠ [41]) := Lib.hid (fun e => hs (by
          obtain ⟨⟨l⟩⟩ := s
          simp only at e
          subst e
          rfl))
        have hsb : (s.toList == ([41] : List UInt8)) = false := by rw [ByteArray.toList_eq, beq_eq_false_iff_ne]; exact HSN.out
        by_cases hk : k = 0
        · have HV2 : Hid (z = (decide ((setF 0 S).pd = []), setF 0 S)) := Lib.hid (by rw [HV.out, if_neg HSN.out, if_pos hk])
          have HSE := Lib.hid (settle_any rb NV S vn vp 0 w3 H3.out (by have := HL.out; omega))
          subst hk
          go_wp2_with fail
          refine HSE.out.mono ?_
          rintro e w4 ⟨rfl, hst4⟩
          have HST4 := Lib.hid (StP.trans HBR.out HKP.out hst4 (ts := tsO) (by decide))
          obtain ⟨⟨vn4, vp4, h4⟩, _, _⟩ := hst4
          obtain ⟨A4, c4, p4, e2⟩ := or_form oC_len h4.p
          subst e2
          have HCAP := Lib.hid (oo_cap h4.p)
          have q3 := h4.c.c3
          clear h4
          have hp9 : p4 ≤ 90000 := by have h1 := HCAP.out.1; have h2 := set_len 0 S; have h3 := HL.out; omega
          by_cases hp : p4 = 0
          · have HZ2 : Hid (z = (true, setF 0 S)) := Lib.hid (by rw [HV2.out, decide_eq_true (List.eq_nil_of_length_eq_zero (by rw [← HCAP.out.1]; exact hp))])
            subst hp
            go_wp2
            go_ret
            rw [HZ2.out]
            exact ⟨rfl, HST4.out⟩
          · have HZ2 : Hid (z = (false, setF 0 S)) := Lib.hid (by rw [HV2.out, decide_eq_false (fun e => hp (by rw [HCAP.out.1, e]; rfl))])
            have hpb : ((p4 : Int) == 0) = false := by rw [beq_eq_false_iff_ne]; omega
            go_wp2
            go_ret
            rw [HZ2.out]
            exact ⟨rfl, HST4.out⟩
        · have HV2 : Hid (z = (false, S)) := Lib.hid (by rw [HV.out, if_neg HSN.out, if_neg hk])
          have hkb : (k == 0) = false := by rw [beq_eq_false_iff_ne]; exact hk
          go_wp2
          go_ret
          rw [HV2.out]
          exact ⟨rfl, ⟨_, _, H3.out⟩, HBR.out, HKP.out⟩
  | some o' =>
    obtain rfl : q = true := HQ.out.symm
    obtain rfl : o' = o := HOO.out
    clear HQ HOO
    by_cases hlf : 0 < o'.lf
    · skip
      have HV2 : Hid (z = (true, ⟨true, (setF o'.bd S).nd, (setF o'.bd S).pd ++ [o']⟩)) := Lib.hid (by rw [← HZ.out]; exact goF_set HR.out hlf)
      have HSE := Lib.hid (settle_any rb NV S vn vp o'.bd w3 H3.out (by have := HL.out; omega))
      have hlb : decide (0 < o'.lf) = true := decide_eq_true hlf
      obtain ⟨Q, HQQ⟩ : ∃ Q, Hid (setF o'.bd S = Q) := ⟨_, Lib.hid rfl⟩
      have HQL : Hid (Q.pd.length ≤ 80000) := Lib.hid (by have h2 := set_len o'.bd S; have h3 := HL.out; rw [HQQ.out] at h2; omega)
      have HQB : Hid (Q.bg = S.bg) := Lib.hid (by rw [← HQQ.out]; rfl)
      rw [HQQ.out] at HSE HV2
      go_wp2_with fail
      refine HSE.out.mono ?_
      rintro e w4 ⟨rfl, hst4⟩
      obtain ⟨⟨vn4, vp4, h4⟩, hb4, hk4⟩ := hst4
      have HBR4 : Hid (Below rb w w4) := Lib.hid (HBR.out.trans hb4)
      have HKP4 : Hid (Kp tsO rb w w4) := Lib.hid (HKP.out.trans (hk4.mono (by decide)) HBR.out.size)
      have hop4 := hk4.stay HP3.out HN3.out (by decide)
      clear o0 o1 o2 o3 o4 t0 t3
      have o0 : w4.cell? ⟨ob, 0, none⟩ = some (.int .i64 o'.op) := cell_of hop4 0
      have o1 : w4.cell? ⟨ob, 1, none⟩ = some (.string (sgA o')) := cell_of hop4 1
      have o2 : w4.cell? ⟨ob, 2, none⟩ = some (.int .i64 o'.bd) := cell_of hop4 2
      have o3 : w4.cell? ⟨ob, 3, none⟩ = some (.int .i64 o'.lf) := cell_of hop4 3
      have o4 : w4.cell? ⟨ob, 4, none⟩ = some (.int .i64 o'.rt) := cell_of hop4 4
      obtain ⟨A, c, p, e2⟩ := or_form oC_len h4.p
      subst e2
      have H4 := Lib.hid h4
      have HRS : Hid (rb + 1 ≤ w4.heap.size) := Lib.hid h4.c.lt
      clear h4 hb4 hk4 hop4
      go_upto_region 4 with (fail)
      have c3 := H4.out.c.c3
      have f3 := H4.out.c.f 3
      have c3a := ((below_one w4 (opB o')).cell (p := ⟨rb, 3, none⟩) H4.out.c.lt).trans c3
      refine wp_region_noPanic ?_
      go_region_law
        (first
          | (refine step_append_own oC_len oC_one Tryd.underlying52 infoO rfl (by decide) (by decide) (rb + 1) _ (by rfl) (.tmp 28) (.tmp 30) (by rfl) (by rfl) _ Q.pd (by rfl) (OR.below H4.out.p (by first | exact (below_one _ _).drew | exact (below_one _ _) | exact (Below.refl _ _).drew.trans (below_one _ _))) o' _ (by rfl) (by rfl) (by have := HQL.out; omega) (by have := HRS.out; first | omega | (simp; omega)) _ (by first | exact World.alloc_heap_new _ _) ?_; intro v5 w5 ho5 hb5 hg5; obtain ⟨A5, c5, q5, rfl⟩ := or_form oC_len ho5; have HO5 := Lib.hid ho5; have HB5 : Hid (Below (rb + 1) w4 w5) := Lib.hid (by first | exact ((Below.refl _ _).alloc HRS.out _).drew.trans hb5 | exact ((Below.refl _ _).alloc HRS.out _).trans hb5 | exact ((Below.refl _ _).drew.alloc HRS.out _).trans hb5); have HC5 := Lib.hid (H4.out.c.lower HB5.out (Nat.lt_succ_self _)); have HNN5 : Hid (ON (rb + 1) w5 vn4 Q.nd) := Lib.hid (by first | exact oo_apart (World.ownsRow.drew (World.ownsRow.alloc H4.out.p _)) (World.ownsRow.drew (World.ownsRow.alloc H4.out.n _)) hg5 | exact oo_apart (World.ownsRow.alloc H4.out.p _) (World.ownsRow.alloc H4.out.n _) hg5 | exact oo_apart (World.ownsRow.alloc (World.ownsRow.drew H4.out.p) _) (World.ownsRow.alloc (World.ownsRow.drew H4.out.n) _) hg5); have HK5 : Hid (Kp tsO rb w4 w5) := Lib.hid (Kp.grow (by first | exact (below_one _ _).drew | exact (below_one _ _) | exact (Below.refl _ _).drew.trans (below_one _ _)) hg5 H4.out.p (by decide)); have k2 := HC5.out.c3; have k3 := HC5.out.f 3; clear ho5 hb5 hg5)
          | fail)
      all_goals
        refine NoPanic.normal ?_
        obtain ⟨fw, HFW⟩ : ∃ f, Hid (fv Q.bg rb = f) := ⟨_, Lib.hid rfl⟩
        have j1 := HC5.out.c1
        rw [HFW.out] at j1
        have g1 := HC5.out.f 1
        have hst := store_func
        go_wp2
        go_ret
        rw [HV2.out]
        exact ⟨rfl, ⟨_, _, (HC5.out.set3 _).set1 _, ownsRow_setCell_below (ownsRow_setCell_below HNN5.out (Nat.lt_succ_self _) _) (Nat.lt_succ_self _) _, ownsRow_setCell_below (ownsRow_setCell_below HO5.out (Nat.lt_succ_self _) _) (Nat.lt_succ_self _) _⟩, ((HBR4.out.trans (HB5.out.mono (Nat.le_succ _))).setCell (Nat.le_refl _) _).setCell (Nat.le_refl _) _, ((HKP4.out.trans HK5.out HBR4.out.size).set (Nat.le_trans HBR4.out.size HB5.out.size) _ _).set (by simp; exact Nat.le_trans HBR4.out.size HB5.out.size) _ _⟩
    · have HNO : Hid (∀ o'' : Opr, some o' = some o'' → ¬ 0 < o''.lf) := Lib.hid (fun o'' e => by injection e with e; exact e ▸ hlf)
      have hlb : decide (0 < o'.lf) = false := decide_eq_false hlf
      have HV : Hid (z = if s.data.toList = [41] then shF S else if k = 0 then (decide ((setF 0 S).pd = []), setF 0 S) else (false, S)) := Lib.hid (by rw [← HZ.out]; exact goF_else (fun o' ho' => HNO.out o' (HR.out.symm.trans ho')))
      by_cases hs : s = ⟨#[41]⟩
      · have HV2 : Hid (shF S = z) := Lib.hid (by rw [HV.out, if_pos (by rw [hs])])
        have HSH := Lib.hid (shut_any rb NV S vn vp w3 H3.out (by have := HL.out; omega))
        rw [HV2.out] at HSH
        subst hs
        go_wp2_with fail
        refine HSH.out.mono ?_
        rintro e w4 ⟨rfl, hst4⟩
        have HST4 := Lib.hid (StP.trans HBR.out HKP.out hst4 (ts := tsO) (by decide))
        clear hst4
        go_wp2
        go_ret
        exact ⟨rfl, HST4.out⟩
      · have HSN : Hid (s.data.toList ≠ [41]) := Lib.hid (fun e => hs (by
          obtain ⟨⟨l⟩⟩ := s
          simp only at e
          subst e
          rfl))
        have hsb : (s.toList == ([41] : List UInt8)) = false := by rw [ByteArray.toList_eq, beq_eq_false_iff_ne]; exact HSN.out
        by_cases hk : k = 0
        · have HV2 : Hid (z = (decide ((setF 0 S).pd = []), setF 0 S)) := Lib.hid (by rw [HV.out, if_neg HSN.out, if_pos hk])
          have HSE := Lib.hid (settle_any rb NV S vn vp 0 w3 H3.out (by have := HL.out; omega))
          subst hk
          go_wp2_with fail
          refine HSE.out.mono ?_
          rintro e w4 ⟨rfl, hst4⟩
          have HST4 := Lib.hid (StP.trans HBR.out HKP.out hst4 (ts := tsO) (by decide))
          obtain ⟨⟨vn4, vp4, h4⟩, _, _⟩ := hst4
          obtain ⟨A4, c4, p4, e2⟩ := or_form oC_len h4.p
          subst e2
          have HCAP := Lib.hid (oo_cap h4.p)
          have q3 := h4.c.c3
          clear h4
          have hp9 : p4 ≤ 90000 := by have h1 := HCAP.out.1; have h2 := set_len 0 S; have h3 := HL.out; omega
          by_cases hp : p4 = 0
          · have HZ2 : Hid (z = (true, setF 0 S)) := Lib.hid (by rw [HV2.out, decide_eq_true (List.eq_nil_of_length_eq_zero (by rw [← HCAP.out.1]; exact hp))])
            subst hp
            go_wp2
            go_ret
            rw [HZ2.out]
            exact ⟨rfl, HST4.out⟩
          · have HZ2 : Hid (z = (false, setF 0 S)) := Lib.hid (by rw [HV2.out, decide_eq_false (fun e => hp (by rw [HCAP.out.1, e]; rfl))])
            have hpb : ((p4 : Int) == 0) = false := by rw [beq_eq_false_iff_ne]; omega
            go_wp2
            go_ret
            rw [HZ2.out]
            exact ⟨rfl, HST4.out⟩
        · have HV2 : Hid (z = (false, S)) := Lib.hid (by rw [HV.out, if_neg HSN.out, if_neg hk])
          have hkb : (k == 0) = false := by rw [beq_eq_false_iff_ne]; exact hk
          go_wp2
          go_ret
          rw [HV2.out]
          exact ⟨rfl, ⟨_, _, H3.out⟩, HBR.out, HKP.out⟩
end Go.Proofs.YtgnflnfajkoibaaDoor.tx
namespace Go.Proofs.YtgnflnfajkoibaaDoor.tx
open Go.ChangeShapes Go.WideShapes Go.ChangeAt Go.RowKit Go.Deep sr lt

set_option maxRecDepth 20000 in
set_option maxHeartbeats 8000000 in
theorem begin_any (rb : Nat) (NA : Option Addr) (n d : Nat) (N : List ByteArray) (S : Rd) (vn vp : Value) (k num pos : Int) (s : ByteArray) (w : World) (h : RdW w rb (.slice NA n d) S vn vp) (hN : NmS w NA n d N) (hO : OpsW w) (hl : S.nd.length + S.pd.length ≤ 80000) :
    Calls Tryd.prog 37 #[.pointer (some ⟨rb, 0, none⟩), tkV k num pos s] w (BoolQ tsO w rb (.slice NA n d) (bgF (prO N s) s.data.toList S)) := by
  obtain ⟨pr, HPR⟩ : ∃ pr, Hid (prO N s = pr) := ⟨_, Lib.hid rfl⟩
  rw [HPR.out]
  obtain ⟨z, HZ⟩ : ∃ z, Hid (bgF pr s.data.toList S = z) := ⟨_, Lib.hid rfl⟩
  rw [HZ.out]
  have HL := Lib.hid hl
  obtain ⟨r, HR⟩ : ∃ r, Hid (wrO s.data.toList = r) := ⟨_, Lib.hid rfl⟩
  obtain ⟨w1, HW1⟩ : ∃ w1, w1 = w.alloc (.cells #[.int .i64 k, .int .i64 num, .int .i64 pos, .string s] 72) := ⟨_, rfl⟩
  have hb1 : Below w.heap.size w w1 := by rw [HW1]; exact below_one _ _
  have ht1 : w1.heap[w.heap.size]? = some (tkC k num pos s) := by rw [HW1]; exact World.alloc_heap_new _ _
  have hz1 : w.heap.size < w1.heap.size := by rw [HW1]; simp
  have HZ1 := Lib.hid hz1
  have HT1 := Lib.hid ht1
  have HB1 := Lib.hid hb1
  have H1 := Lib.hid (h.below hb1)
  have HRL := Lib.hid h.c.lt
  have HPA : Hid (∀ W, Below w1.heap.size w1 W → Calls Tryd.prog 55 #[.slice NA n d, .string s] W (PrP pr W)) := Lib.hid (fun W hW => by rw [← HPR.out]; exact proposition_any NA n d N s W ((hN.below hb1).below hW) ((OpsW.keep hO hb1).keep hW))
  have HOW : Hid (∀ W, Below w1.heap.size w1 W → OpsW W) := Lib.hid (fun W hW => (OpsW.keep hO hb1).keep hW)
  have t0 : w1.cell? ⟨w.heap.size, 0, none⟩ = some (.int .i64 k) := cell_of ht1 0
  have t3 : w1.cell? ⟨w.heap.size, 3, none⟩ = some (.string s) := cell_of ht1 3
  have c0 := H1.out.c.c0
  clear h hN hO hl hb1 ht1 hz1
  unfold tkV
  go_enter Tryd.func37, Tryd.ntmps37
  go_upto_region 1 with (fail)
  rw [← HW1]
  clear HW1
  go_region_held3 (fun w' => w'.cell? ⟨w.heap.size, 3, none⟩ = some (.string s) ∧ w'.cell? ⟨rb, 0, none⟩ = some (.slice NA n d))
    (first | exact ⟨t3, c0⟩ | exact ⟨l3, l0⟩ | go_keep)
    ((go_at_call 55; refine (HPA.out _ (Below.refl _ w1).drew).mono ?_; rintro x w2 ⟨zz, rfl, hzi, hb2⟩; have HB2 : Hid (Below w1.heap.size w1 w2) := Lib.hid (RowKit.Below.trans (Below.refl _ w1).drew hb2); have HZI := Lib.hid hzi; have l3 : w2.cell? ⟨w.heap.size, 3, none⟩ = some (.string s) := (HB2.out.cell (p := ⟨w.heap.size, 3, none⟩) HZ1.out).trans t3; have l0 : w2.cell? ⟨rb, 0, none⟩ = some (.slice NA n d) := (HB2.out.cell (p := ⟨rb, 0, none⟩) H1.out.c.lt).trans c0; clear hb2 hzi))
  have H2 := Lib.hid (H1.out.below HB2.out)
  have hb12 := HB1.out.trans (HB2.out.mono HB1.out.size)
  have HBR2 : Hid (Below rb w w2) := Lib.hid (hb12.mono (Nat.le_of_lt HRL.out))
  have HKP2 : Hid (Kp tsO rb w w2) := Lib.hid (Kp.below hb12)
  clear hb12 t0 t3 c0
  cases pr with
  | some i =>
    obtain rfl : zz = (i : Int) := HZI.out i rfl
    have HV : Hid (z = (true, leafF (3, (i : Int)) S)) := Lib.hid (HZ.out.symm)
    go_wp2_with fail
    refine (leaf_any rb _ S vn vp 3 (i : Int) w2 H2.out (by have := HL.out; omega)).mono ?_
    rintro e w3 ⟨rfl, hst⟩
    have HST := Lib.hid (StP.trans HBR2.out HKP2.out hst (ts := tsO) (by decide))
    clear hst
    go_wp2
    go_ret
    rw [HV.out]
    exact ⟨rfl, HST.out⟩
  | none =>
    have HO2 := Lib.hid (HOW.out w2 HB2.out)
    have ht2 : w2.heap[w.heap.size]? = some (tkC k num pos s) := (HB2.out.block _ HZ1.out).trans HT1.out
    have HT2 := Lib.hid ht2
    clear ht2 l0
    go_wp2_with fail
    refine (written_any s w2 HO2.out).mono ?_
    rw [HR.out]
    rintro e w3 ⟨rfl, hb3⟩
    obtain ⟨o, HOO⟩ : ∃ o, Hid (r.getD brO = o) := ⟨_, Lib.hid rfl⟩
    obtain ⟨q, HQ⟩ : ∃ q, Hid (r.isSome = q) := ⟨_, Lib.hid rfl⟩
    rw [HOO.out, HQ.out]
    unfold oV
    obtain ⟨w4, HW4⟩ : ∃ w4, w4 = w3.alloc (.cells #[.int .i64 o.op, .string (sgA o), .int .i64 o.bd, .int .i64 o.lf, .int .i64 o.rt] 58) := ⟨_, rfl⟩
    have hb34 : Below w3.heap.size w3 w4 := by rw [HW4]; exact below_one _ _
    have hb24 : Below w2.heap.size w2 w4 := hb3.trans (hb34.mono hb3.size)
    have H4 := Lib.hid (H2.out.below hb24)
    have HBR4 : Hid (Below rb w w4) := Lib.hid (HBR2.out.trans (hb24.mono (Nat.le_of_lt H2.out.c.lt)))
    have HKP4 : Hid (Kp tsO rb w w4) := Lib.hid (HKP2.out.trans (Kp.below hb24) HBR2.out.size)
    have ht4 : w4.heap[w.heap.size]? = some (tkC k num pos s) := (hb24.block _ (Nat.lt_of_lt_of_le HZ1.out HB2.out.size)).trans HT2.out
    obtain ⟨ob, HOB⟩ : ∃ ob, Hid (ob = w3.heap.size) := ⟨_, Lib.hid rfl⟩
    have hp4 : w4.heap[ob]? = some (opB o) := by rw [HOB.out, HW4]; exact World.alloc_heap_new _ _
    have t3 : w4.cell? ⟨w.heap.size, 3, none⟩ = some (.string s) := cell_of ht4 3
    have o0 : w4.cell? ⟨ob, 0, none⟩ = some (.int .i64 o.op) := cell_of hp4 0
    have o1 : w4.cell? ⟨ob, 1, none⟩ = some (.string (sgA o)) := cell_of hp4 1
    have o2 : w4.cell? ⟨ob, 2, none⟩ = some (.int .i64 o.bd) := cell_of hp4 2
    have o3 : w4.cell? ⟨ob, 3, none⟩ = some (.int .i64 o.lf) := cell_of hp4 3
    have o4 : w4.cell? ⟨ob, 4, none⟩ = some (.int .i64 o.rt) := cell_of hp4 4
    clear l3
    go_upto_region 7 with (fail)
    rw [← HOB.out, ← HW4]
    clear HW4 HOB hb3 hb34 hb24 ht4 hp4
    by_cases hs : s = ⟨#[40]⟩
    · have HV : Hid (z = (true, ⟨S.bg, S.nd, S.pd ++ [brO]⟩)) := Lib.hid (by rw [← HZ.out]; unfold bgF; simp only; rw [if_pos (by rw [hs])])
      have hsb : (s.toList == ([40] : List UInt8)) = true := by rw [hs, ByteArray.toList_eq]; rfl
      have c3 := H4.out.c.c3
      have f3 := H4.out.c.f 3
      have HRS : Hid (rb + 1 ≤ w4.heap.size) := Lib.hid H4.out.c.lt
      go_wp2_with (at_builtin; go_loud (refine sr.list_append_own oC_len oC_one Tryd.underlying52 infoO rfl (by decide) (by decide) (rb + 1) _ rfl (.tmp 43) (.tmp 45) rfl rfl _ S.pd rfl (OR.below H4.out.p (below_one _ _)) brO _ rfl rfl (by have := HL.out; omega) (by have := HRS.out; simp; omega) _ (World.alloc_heap_new _ _) ?_); intro v5 w5 ho5 hb5 hg5; obtain ⟨A5, c5, q5, rfl⟩ := or_form oC_len ho5; have HO5 := Lib.hid ho5; have HB5 : Hid (Below (rb + 1) w4 w5) := Lib.hid (((Below.refl _ _).alloc HRS.out _).trans hb5); have HC5 := Lib.hid (H4.out.c.lower HB5.out (Nat.lt_succ_self _)); have HNN5 : Hid (ON (rb + 1) w5 vn S.nd) := Lib.hid (oo_apart (World.ownsRow.alloc H4.out.p _) (World.ownsRow.alloc H4.out.n _) hg5); have HK5 : Hid (Kp tsO rb w4 w5) := Lib.hid (Kp.grow (below_one _ _) hg5 H4.out.p (by decide)); have k2 := HC5.out.c3; have k3 := HC5.out.f 3; clear ho5 hb5 hg5)
      go_ret
      rw [HV.out]
      exact ⟨rfl, ⟨_, _, HC5.out.set3 _, ownsRow_setCell_below HNN5.out (Nat.lt_succ_self _) _, ownsRow_setCell_below HO5.out (Nat.lt_succ_self _) _⟩, (HBR4.out.trans (HB5.out.mono (Nat.le_succ _))).setCell (Nat.le_refl _) _, (HKP4.out.trans HK5.out HBR4.out.size).set (Nat.le_trans HBR4.out.size HB5.out.size) _ _⟩
    · have HSN : Hid (s.data.toList ≠ [40]) := Lib.hid (fun e => hs (by
        obtain ⟨⟨l⟩⟩ := s
        simp only at e
        subst e
        rfl))
      have hsb : (s.toList == ([40] : List UInt8)) = false := by rw [ByteArray.toList_eq, beq_eq_false_iff_ne]; exact HSN.out
      cases r with
      | none =>
        have HV : Hid (z = (false, S)) := Lib.hid (by rw [← HZ.out]; unfold bgF; simp only; rw [if_neg HSN.out, HR.out])
        obtain rfl : q = false := HQ.out.symm
        clear HQ
        go_wp2
        go_ret
        rw [HV.out]
        exact ⟨rfl, ⟨_, _, H4.out⟩, HBR4.out, HKP4.out⟩
      | some o' =>
        have HVE : Hid (z = if 0 < o'.lf then (false, S) else if 0 < o'.rt then (true, ⟨S.bg, S.nd, S.pd ++ [o']⟩) else (true, leafF (o'.op, 0) S)) := Lib.hid (by rw [← HZ.out]; unfold bgF; simp only; rw [if_neg HSN.out, HR.out])
        obtain rfl : q = true := HQ.out.symm
        obtain rfl : o' = o := HOO.out
        clear HQ HOO
        by_cases hlf : 0 < o'.lf
        · have HV : Hid (z = (false, S)) := Lib.hid (by rw [HVE.out, if_pos hlf])
          have hlb : decide (0 < o'.lf) = true := decide_eq_true hlf
          go_wp2
          go_ret
          rw [HV.out]
          exact ⟨rfl, ⟨_, _, H4.out⟩, HBR4.out, HKP4.out⟩
        · have hlb : decide (0 < o'.lf) = false := decide_eq_false hlf
          by_cases hrt : 0 < o'.rt
          · have HV : Hid (z = (true, ⟨S.bg, S.nd, S.pd ++ [o']⟩)) := Lib.hid (by rw [HVE.out, if_neg hlf, if_pos hrt])
            have hrb : decide (0 < o'.rt) = true := decide_eq_true hrt
            go_upto_region 12 with (fail)
            have c3 := H4.out.c.c3
            have f3 := H4.out.c.f 3
            have c3a := ((below_one w4 (opB o')).cell (p := ⟨rb, 3, none⟩) H4.out.c.lt).trans c3
            have HRS : Hid (rb + 1 ≤ w4.heap.size) := Lib.hid H4.out.c.lt
            refine wp_region_noPanic ?_
            go_region_law
              (first
                | (refine step_append_own oC_len oC_one Tryd.underlying52 infoO rfl (by decide) (by decide) (rb + 1) _ (by rfl) (.tmp 65) (.tmp 67) (by rfl) (by rfl) _ S.pd (by rfl) (OR.below H4.out.p (by first | exact (below_one _ _).drew | exact (below_one _ _) | exact (Below.refl _ _).drew.trans (below_one _ _))) o' _ (by rfl) (by rfl) (by have := HL.out; omega) (by have := HRS.out; first | omega | (simp; omega)) _ (by first | exact World.alloc_heap_new _ _) ?_; intro v5 w5 ho5 hb5 hg5; obtain ⟨A5, c5, q5, rfl⟩ := or_form oC_len ho5; have HO5 := Lib.hid ho5; have HB5 : Hid (Below (rb + 1) w4 w5) := Lib.hid (by first | exact ((Below.refl _ _).alloc HRS.out _).drew.trans hb5 | exact ((Below.refl _ _).alloc HRS.out _).trans hb5 | exact ((Below.refl _ _).drew.alloc HRS.out _).trans hb5); have HC5 := Lib.hid (H4.out.c.lower HB5.out (Nat.lt_succ_self _)); have HNN5 : Hid (ON (rb + 1) w5 vn S.nd) := Lib.hid (by first | exact oo_apart (World.ownsRow.drew (World.ownsRow.alloc H4.out.p _)) (World.ownsRow.drew (World.ownsRow.alloc H4.out.n _)) hg5 | exact oo_apart (World.ownsRow.alloc H4.out.p _) (World.ownsRow.alloc H4.out.n _) hg5 | exact oo_apart (World.ownsRow.alloc (World.ownsRow.drew H4.out.p) _) (World.ownsRow.alloc (World.ownsRow.drew H4.out.n) _) hg5); have HK5 : Hid (Kp tsO rb w4 w5) := Lib.hid (Kp.grow (by first | exact (below_one _ _).drew | exact (below_one _ _) | exact (Below.refl _ _).drew.trans (below_one _ _)) hg5 H4.out.p (by decide)); have k2 := HC5.out.c3; have k3 := HC5.out.f 3; clear ho5 hb5 hg5)
                | fail)
            all_goals
              refine NoPanic.normal ?_
              have HEND : Hid (StP tsO w rb (.slice NA n d) ⟨S.bg, S.nd, S.pd ++ [o']⟩ (w5.setCell ⟨rb, 3, none⟩ (.slice A5 q5 c5))) := Lib.hid ⟨⟨_, _, HC5.out.set3 _, ownsRow_setCell_below HNN5.out (Nat.lt_succ_self _) _, ownsRow_setCell_below HO5.out (Nat.lt_succ_self _) _⟩, (HBR4.out.trans (HB5.out.mono (Nat.le_succ _))).setCell (Nat.le_refl _) _, (HKP4.out.trans HK5.out HBR4.out.size).set (Nat.le_trans HBR4.out.size HB5.out.size) _ _⟩
              go_wp2
              go_ret
              rw [HV.out]
              first
                | exact ⟨rfl, HEND.out⟩
                | exact ⟨rfl, HEND.out.drew⟩
          · have HV : Hid (z = (true, leafF (o'.op, 0) S)) := Lib.hid (by rw [HVE.out, if_neg hlf, if_neg hrt])
            have hrb : decide (0 < o'.rt) = false := decide_eq_false hrt
            go_wp2_with fail
            refine (leaf_any rb _ S vn vp o'.op 0 w4 H4.out (by have := HL.out; omega)).mono ?_
            rintro e w5 ⟨rfl, hst⟩
            have HST := Lib.hid (StP.trans HBR4.out HKP4.out hst (ts := tsO) (by decide))
            clear hst
            go_wp2
            go_ret
            rw [HV.out]
            exact ⟨rfl, HST.out⟩
end Go.Proofs.YtgnflnfajkoibaaDoor.tx
