/- The program's writer: lead. -/
import Derived.Test.YtmdfiamffipbcaaDoorNnfPut
namespace Go.Proofs.YtmdfiamffipbcaaDoor.nf
open Go.ChangeShapes Go.WideShapes Go.ChangeAt Go.RowKit Go.Deep sr lt

theorem or_take {α : Type} [Inhabited α] {enc : α → List Value} {size base : Nat} {e : TypeId} (hsz : ∀ x, (enc x).length = size) {w : World} {A : Option Addr} {c m : Nat} {l : List α} (h : OR enc size base e w (.slice A m c) l) (n : Nat) (hn : n ≤ l.length) : OR enc size base e w (.slice A n c) (l.take n) := by
  obtain ⟨h1, h2⟩ := h
  rcases h2 with ⟨e, h0⟩ | ⟨g, cap, cur, e, hb, hg, h3, h4, h5, h6⟩
  · have hn0 : n = 0 := by omega
    injection e with e1 e2 e3
    subst e1 e3 hn0
    exact World.ownsRow_nil _ _ _ _
  · injection e with e1 e2 e3
    subst e1 e3
    have hl : (l.take n).length = n := by simp; omega
    have hfl : flatR enc (l.take n) = (flatR enc l).take (n * size) := by
      have e2 : flatR enc l = flatR enc (l.take n) ++ flatR enc (l.drop n) := by rw [← flatR_append, List.take_append_drop]
      have e3 : (flatR enc (l.take n)).length = n * size := by rw [flatR_length hsz, hl]
      rw [e2, ← e3, List.take_left']
      rfl
    refine ⟨by rw [flatR_length hsz], .inr ⟨g, c, cur, by rw [hl], hb, hg, by rw [hl]; omega, h4, h5, ?_⟩⟩
    rw [hl, hfl, ← h6, List.take_take]
    congr 1
    have := Nat.mul_le_mul_right size hn
    omega
theorem or_cap {α : Type} [Inhabited α] {enc : α → List Value} {size base : Nat} {e : TypeId} (hsz : ∀ x, (enc x).length = size) {w : World} {A : Option Addr} {c m : Nat} {l : List α} (h : OR enc size base e w (.slice A m c) l) : m = l.length ∧ m ≤ c ∧ RS enc size w A l := by
  obtain ⟨A', c', e, hr⟩ := OR.rs hsz h
  injection e with e1 e2 e3
  subst e1 e2 e3
  refine ⟨rfl, ?_, hr⟩
  rcases h.2 with ⟨e, h0⟩ | ⟨g, cap, cur, e, _, _, h3, _⟩
  · injection e with e1 e2 e3
    omega
  · injection e with e1 e2 e3
    subst e3
    omega
set_option maxRecDepth 20000 in
theorem headC_run (B : Option Addr) (k n d : Nat) (h : k ≤ n) (h2 : n ≤ d) (W : World) : (Instr.sliceAt 48 (.slice B n d) none (some (.int .i64 (k : Int))) none).run Tryd.prog W = .ok (.slice B k d) W := by
  have hsz : (sizeOf (Tryd.prog.elem 48)).run Tryd.prog W = .ok 3 W := by simp [go_sem]
  rw [run_sliceAt_slice (P := Tryd.prog) W 48 _ _ _ _ Tryd.underlying48, run_slice_h (P := Tryd.prog) W 48 B n d Tryd.underlying48 .i64 k (by omega) (by omega), hsz]
  cases B <;> simp [Result.andThen, sliced, Addr.add]
theorem con_at {w : World} {A : Option Addr} {l : List (Int × Int)} (h : RS encC 3 w A l) {i : Nat} (hi : i < l.length) : ∃ b off, A = some ⟨b, off, none⟩ ∧ b < w.heap.size ∧ w.cell? ⟨b, off + i * 3, none⟩ = some (.int .i64 (l.getD i default).1) ∧ w.cell? ⟨b, off + i * 3 + 1, none⟩ = some (.int .i64 0) ∧ w.cell? ⟨b, off + i * 3 + 2, none⟩ = some (.int .i64 (l.getD i default).2) := by
  obtain ⟨b, off, e, hb, hc⟩ := h (by omega)
  exact ⟨b, off, e, hb, hc i hi 0 (by omega), hc i hi 1 (by omega), hc i hi 2 (by omega)⟩
/-- How many wait. -/
def wlen (rb : Nat) (w : World) : Nat := match w.cell? ⟨rb, 3, none⟩ with
  | some (.slice _ n _) => n
  | _ => 0
theorem leadF_step {j : Nat} {S : St} {n : Nat} (hn : S.wt.length = n + 1) (h : (S.wt.getD n default).2 = j) : leadF j S = leadF j ⟨S.ng, S.wt.take n, S.w ++ [((S.wt.getD n default).1, 0)]⟩ := by
  have e : S.wt = S.wt.take n ++ [S.wt.getD n default] := by
    have h1 : S.wt.getD n default = S.wt[n] := by simp [List.getD, hn]
    rw [h1, ← List.take_succ_eq_append_getElem (by omega), List.take_of_length_le (by omega)]
  have e2 : S.wt.reverse = S.wt.getD n default :: (S.wt.take n).reverse := by
    conv => lhs; rw [e]
    rw [List.reverse_append]
    rfl
  unfold leadF
  rw [e2, popR, if_pos h]
  simp
theorem leadF_stop {j : Nat} {S : St} {n : Nat} (hn : S.wt.length = n + 1) (h : (S.wt.getD n default).2 ≠ j) : leadF j S = S := by
  have e : S.wt = S.wt.take n ++ [S.wt.getD n default] := by
    have h1 : S.wt.getD n default = S.wt[n] := by simp [List.getD, hn]
    rw [h1, ← List.take_succ_eq_append_getElem (by omega), List.take_of_length_le (by omega)]
  have e2 : S.wt.reverse = S.wt.getD n default :: (S.wt.take n).reverse := by
    conv => lhs; rw [e]
    rw [List.reverse_append]
    rfl
  unfold leadF
  rw [e2, popR, if_neg h, ← e2, List.reverse_reverse, List.append_nil]
theorem leadF_nil {j : Nat} {S : St} (h : S.wt = []) : leadF j S = S := by
  unfold leadF
  rw [h]
  show (⟨S.ng, [], S.w ++ []⟩ : St) = S
  rw [List.append_nil, ← h]
set_option maxRecDepth 20000 in
set_option maxHeartbeats 8000000 in
theorem lead_any (F : Fx) (S : St) (vw vo : Value) (j : Nat) (w : World) (h : WrW F w S vw vo) (hl : S.w.length + S.wt.length ≤ 80000) :
    Calls Tryd.prog 32 #[.pointer (some ⟨F.rb, 0, none⟩), .int .i64 (j : Int)] w (StepP F w (leadF j S)) := by
  have H := Lib.hid h
  have HL := Lib.hid hl
  obtain ⟨rb, HRB⟩ : ∃ rb, Hid (F.rb = rb) := ⟨_, Lib.hid rfl⟩
  rw [HRB.out]
  clear h hl
  go_enter Tryd.func32, Tryd.ntmps32
  go_wp2
  go_loopw [4] (fun v4 wr => ∃ (S2 : St) (vw' vo' : Value), v4 = v4 ∧ Hid (WrW F wr S2 vw' vo') ∧ Hid (S2.w.length + S2.wt.length ≤ 80000) ∧ Hid (leadF j S = leadF j S2) ∧ Hid (Wt F.rb F.nb F.B0 w wr)) (fun _ wr => wlen rb wr)
  case atStart => exact ⟨S, vw, vo, rfl, H, HL, Lib.hid rfl, Lib.hid (Wt.refl _ _ _ _)⟩
  case round =>
    obtain ⟨S2, vw', vo', _, HW, HLL, HF, HT⟩ := hrel
    obtain ⟨A, c, q, rfl⟩ := or_form encC_len HW.out.wt
    have HCAP := Lib.hid (or_cap encC_len HW.out.wt)
    have c3 := HW.out.c.c3
    have f3 := HW.out.c.f 3
    rw [HRB.out] at c3 f3
    have HWL : Hid (wlen rb wr = q) := Lib.hid (by unfold wlen; rw [c3])
    rcases q with _ | n
    · have HE : Hid (leadF j S = S2) := Lib.hid (by rw [HF.out]; exact leadF_nil (List.eq_nil_of_length_eq_zero HCAP.out.1.symm))
      go_wp2
      go_end0
      exact ⟨rfl, by rw [HE.out]; exact ⟨_, _, HW.out⟩, HT.out⟩
    · have hnc : n + 1 ≤ c := HCAP.out.2.1
      have hnm : n + 1 ≤ 80000 := by have := HLL.out; have := HCAP.out.1; omega
      obtain ⟨ab, off, rfl, hab, q0, q1, q2⟩ := con_at HCAP.out.2.2 (i := n) (by have := HCAP.out.1; omega)
      obtain ⟨x, y, HXY⟩ : ∃ x y, Hid (S2.wt.getD n default = (x, y)) := ⟨_, _, Lib.hid rfl⟩
      rw [HXY.out] at q0 q2
      dsimp only at q0 q2
      by_cases hy : y = (j : Int)
      · subst hy
        have HE : Hid (leadF j S = leadF j ⟨S2.ng, S2.wt.take n, S2.w ++ [(x, 0)]⟩) := Lib.hid (by rw [HF.out, leadF_step HCAP.out.1.symm (by rw [HXY.out]), HXY.out])
        have HPUT := Lib.hid (put_any F S2 (.slice (some ⟨ab, off, none⟩) (n + 1) c) vo' x 0 wr HW.out (by have := HLL.out; omega))
        rw [HRB.out] at HPUT
        go_wp2_with fail
        refine HPUT.out.mono ?_
        rintro e w2 ⟨rfl, ⟨vw2, vo2, hw2⟩, ht2⟩
        have HW2 := Lib.hid hw2
        have HT2 : Hid (Wt F.rb F.nb F.B0 w w2) := Lib.hid (HT.out.trans ht2)
        clear hw2 ht2 HPUT c3 f3 q0 q1 q2
        obtain ⟨A2, c2, q2, rfl⟩ := or_form encC_len HW2.out.wt
        have HC2 := Lib.hid (or_cap encC_len HW2.out.wt)
        have hq2 : q2 = n + 1 := by have h1 := HC2.out.1; have := HCAP.out.1; dsimp only at h1; omega
        subst hq2
        have hnc2 : n + 1 ≤ c2 := HC2.out.2.1
        have EH := headC_run A2 n (n + 1) c2 (Nat.le_succ _) hnc2
        have c3 := HW2.out.c.c3
        have f3 := HW2.out.c.f 3
        have HNEW : Hid (WrW F (w2.setCell ⟨rb, 3, none⟩ (.slice A2 n c2)) ⟨S2.ng, S2.wt.take n, S2.w ++ [(x, 0)]⟩ (.slice A2 n c2) vo2 ∧ Wt F.rb F.nb F.B0 w2 (w2.setCell ⟨rb, 3, none⟩ (.slice A2 n c2))) := Lib.hid (by
          rw [← HRB.out]
          have hset : Wt F.rb F.nb F.B0 w2 (w2.setCell ⟨F.rb, 3, none⟩ (.slice A2 n c2)) := (Wt.refl _ _ _ _).set F.rb 3 _ (.inl rfl) (isC_of c3)
          have h := HW2.out
          refine ⟨{ h with c := h.c.set3 _, n := h.n.of_block (Below.heap_setCell w2 ⟨F.rb, 3, none⟩ _ F.nb (fun e => h.rn e.symm)), wt := ownsRow_setCell_below (or_take encC_len h.wt n (by have := HCAP.out.1; show n ≤ S2.wt.length; omega)) h.rl _, wo := ownsRow_setCell_below h.wo h.rl _, a := h.a.turn hset.t h.na, b := h.b.turn hset.t h.nbb, fm := h.fm.turn hset.t h.ng, sz := Nat.le_trans h.sz hset.t.size }, hset⟩)
        rw [HRB.out] at c3 f3
        have HWN : Hid (wlen rb (w2.setCell ⟨rb, 3, none⟩ (.slice A2 n c2)) = n) := Lib.hid (by
          have h := HNEW.out.1.c.c3
          rw [HRB.out] at h
          unfold wlen
          rw [h])
        go_wp2
        go_roundw
        · exact ⟨_, _, _, trivial, Lib.hid HNEW.out.1, Lib.hid (by have := HLL.out; have := HCAP.out.1; simp; omega), HE, Lib.hid (HT2.out.trans HNEW.out.2)⟩
        · rw [HWN.out, HWL.out]; exact Nat.lt_succ_self _
      · have HE : Hid (leadF j S = S2) := Lib.hid (by rw [HF.out]; exact leadF_stop HCAP.out.1.symm (by rw [HXY.out]; exact hy))
        have hyb : (y != (j : Int)) = true := by simpa using hy
        go_wp2
        go_end0
        exact ⟨rfl, by rw [HE.out]; exact ⟨_, _, HW.out⟩, HT.out⟩
end Go.Proofs.YtmdfiamffipbcaaDoor.nf
