/- The program's writer: put, left. -/
import Derived.Test.YtmdfiamffipbcaaDoorNnfW
namespace Go.Proofs.YtmdfiamffipbcaaDoor.nf
open Go.ChangeShapes Go.WideShapes Go.ChangeAt Go.RowKit Go.Deep sr lt

theorem or_form {α : Type} [Inhabited α] {enc : α → List Value} {size base : Nat} {e : TypeId} {w : World} {v : Value} {l : List α} (hsz : ∀ x, (enc x).length = size) (h : OR enc size base e w v l) : ∃ A c q, v = .slice A q c := by
  obtain ⟨A, c, e, _⟩ := OR.rs hsz h
  exact ⟨A, c, _, e⟩
/-- A row of the writer's that has grown: all else of it is as it was. -/
theorem WrW.grownO {F : Fx} {w X w' : World} {S : St} {vw vo v' : Value} {L : List (Int × Int)} (h : WrW F w S vw vo) (hb : Below w.heap.size w X) (hg : X.grownBy w' vo.ownBlock) (ho : ON F.B0 w' v' L) : WrW F (w'.setCell ⟨F.rb, 4, none⟩ v') ⟨S.ng, S.wt, L⟩ vw v' ∧ Wt F.rb F.nb F.B0 w (w'.setCell ⟨F.rb, 4, none⟩ v') := by
  have hX := h.below hb
  have hwt : Wt F.rb F.nb F.B0 w w' := Wt.grow (Wt.below hb) hg hX.wo
  have hblk : ∀ k, k < F.B0 → w'.heap[k]? = X.heap[k]? := fun k hk => hg.block k (Nat.lt_of_lt_of_le hk hX.sz) (fun e => by have := (World.ownsRow.lt hX.wo k e.symm).1; omega)
  have hr5 : R5 w' F.rb _ _ _ vw vo := hX.c.block (hblk _ h.rl) hg.size
  have hset : Wt F.rb F.nb F.B0 w (w'.setCell ⟨F.rb, 4, none⟩ v') := hwt.set F.rb 4 v' (.inl rfl) (isC_of hr5.c4)
  refine ⟨{ h with c := hr5.set4 v', n := ?_, wt := ?_, wo := ownsRow_setCell_below ho h.rl _, a := h.a.turn hset.t h.na, b := h.b.turn hset.t h.nbb, fm := h.fm.turn hset.t h.ng, sz := Nat.le_trans h.sz hset.t.size }, hset⟩
  · exact (hX.n.of_block (hblk _ h.nlt)).of_block (Below.heap_setCell w' ⟨F.rb, 4, none⟩ v' F.nb (fun e => h.rn e.symm))
  · exact ownsRow_setCell_below (kinds_apart (by decide) hX.wo hX.wt hg) h.rl _
theorem WrW.grownW {F : Fx} {w X w' : World} {S : St} {vw vo v' : Value} {L : List (Int × Int)} (h : WrW F w S vw vo) (hb : Below w.heap.size w X) (hg : X.grownBy w' vw.ownBlock) (ho : OC F.B0 w' v' L) : WrW F (w'.setCell ⟨F.rb, 3, none⟩ v') ⟨S.ng, L, S.w⟩ v' vo ∧ Wt F.rb F.nb F.B0 w (w'.setCell ⟨F.rb, 3, none⟩ v') := by
  have hX := h.below hb
  have hwt : Wt F.rb F.nb F.B0 w w' := Wt.grow (Wt.below hb) hg hX.wt
  have hblk : ∀ k, k < F.B0 → w'.heap[k]? = X.heap[k]? := fun k hk => hg.block k (Nat.lt_of_lt_of_le hk hX.sz) (fun e => by have := (World.ownsRow.lt hX.wt k e.symm).1; omega)
  have hr5 : R5 w' F.rb _ _ _ vw vo := hX.c.block (hblk _ h.rl) hg.size
  have hset : Wt F.rb F.nb F.B0 w (w'.setCell ⟨F.rb, 3, none⟩ v') := hwt.set F.rb 3 v' (.inl rfl) (isC_of hr5.c3)
  refine ⟨{ h with c := hr5.set3 v', n := ?_, wt := ownsRow_setCell_below ho h.rl _, wo := ?_, a := h.a.turn hset.t h.na, b := h.b.turn hset.t h.nbb, fm := h.fm.turn hset.t h.ng, sz := Nat.le_trans h.sz hset.t.size }, hset⟩
  · exact (hX.n.of_block (hblk _ h.nlt)).of_block (Below.heap_setCell w' ⟨F.rb, 3, none⟩ v' F.nb (fun e => h.rn e.symm))
  · exact ownsRow_setCell_below (kinds_apart (by decide) hX.wt hX.wo hg) h.rl _
/-- A flag is set. -/
theorem WrW.setN {F : Fx} {w : World} {S : St} {vw vo : Value} (h : WrW F w S vw vo) (k : Nat) (b : Bool) (hk : k < F.m) : WrW F (w.setCell ⟨F.nb, k, none⟩ (.bool b)) ⟨S.ng.set k b, S.wt, S.w⟩ vw vo ∧ Wt F.rb F.nb F.B0 w (w.setCell ⟨F.nb, k, none⟩ (.bool b)) := by
  have hset : Wt F.rb F.nb F.B0 w (w.setCell ⟨F.nb, k, none⟩ (.bool b)) := (Wt.refl _ _ _ w).set F.nb k _ (.inr (.inl rfl)) (isC_of (h.n.cell hk))
  refine ⟨{ h with c := h.c.block (Below.heap_setCell w ⟨F.nb, k, none⟩ _ F.rb (fun e => h.rn e)) (by simp), n := (h.n.set k (.bool b)).congr (fun i hi => ?_), nl := by simpa using h.nl, wt := ownsRow_setCell_below h.wt h.nlt _, wo := ownsRow_setCell_below h.wo h.nlt _, a := h.a.turn hset.t h.na, b := h.b.turn hset.t h.nbb, fm := h.fm.turn hset.t h.ng, sz := Nat.le_trans h.sz hset.t.size }, hset⟩
  by_cases e : i = k
  · subst e
    rw [if_pos rfl, set_same (by rw [h.nl]; exact hk)]
  · rw [if_neg e, set_other e]
set_option maxRecDepth 20000 in
set_option maxHeartbeats 4000000 in
theorem put_far (F : Fx) (S : St) (vw vo : Value) (x y : Int) (w : World) (h : WrW F w S vw vo) (hl : S.w.length ≤ 90000) :
    Calls Tryd.prog 43 #[.pointer (some ⟨F.rb, 0, none⟩), .agg #[.int .i64 x, .int .i64 y]] w (fun e w' => StepP F w ⟨S.ng, S.wt, S.w ++ [(x, y)]⟩ e w' ∧ ∀ k, k < w.heap.size → k ≠ F.rb → vo.ownBlock ≠ some k → w'.heap[k]? = w.heap[k]?) := by
  have HL := Lib.hid hl
  obtain ⟨w1, HW1⟩ : ∃ w1, w1 = w.alloc (.cells #[.int .i64 x, .int .i64 y] 38) := ⟨_, rfl⟩
  have hb1 : Below w.heap.size w w1 := by rw [HW1]; exact below_one _ _
  have H1 := Lib.hid (h.below hb1)
  have HB1 := Lib.hid hb1
  have n0 : w1.cell? ⟨w.heap.size, 0, none⟩ = some (.int .i64 x) := by rw [HW1]; exact World.cell?_alloc_at _ _ _ _ rfl
  have n1 : w1.cell? ⟨w.heap.size, 1, none⟩ = some (.int .i64 y) := by rw [HW1]; exact World.cell?_alloc_at _ _ _ _ rfl
  obtain ⟨A, c, e, _⟩ := OR.rs encN_len h.wo
  subst e
  obtain ⟨l, HLE⟩ : ∃ l, Hid (l = S.w.length) := ⟨_, Lib.hid rfl⟩
  rw [← HLE.out] at H1
  obtain ⟨rb, HRB⟩ : ∃ rb, Hid (rb = F.rb) := ⟨_, Lib.hid rfl⟩
  rw [← HRB.out]
  have HFAR : Hid (∀ X w5 v5, Below w1.heap.size w1 X → X.grownBy w5 (Value.slice A S.w.length c).ownBlock → ∀ k, k < w.heap.size → k ≠ F.rb → (Value.slice A S.w.length c).ownBlock ≠ some k → (w5.setCell ⟨F.rb, 4, none⟩ v5).heap[k]? = w.heap[k]?) := Lib.hid (fun X w5 v5 hx hg k hk hkr hko => ((Below.heap_setCell w5 ⟨F.rb, 4, none⟩ v5 k hkr).trans (hg.block k (Nat.lt_of_lt_of_le hk (Nat.le_trans HB1.out.size hx.size)) (fun e => hko e.symm))).trans ((hx.block k (Nat.lt_of_lt_of_le hk HB1.out.size)).trans (HB1.out.block k hk)))
  rw [← HLE.out] at HFAR
  rw [← HLE.out]
  clear h hl hb1
  go_enter Tryd.func43, Tryd.ntmps43
  go_upto_region 1 with (fail)
  rw [← HW1]
  clear HW1
  have HRS : Hid (F.B0 ≤ w1.heap.size) := Lib.hid H1.out.sz
  have c4 := H1.out.c.c4
  have f4 := H1.out.c.f 4
  have c4a := ((below_one w1 (.cells #[.int .i64 x, .int .i64 y] 38)).cell (p := ⟨F.rb, 4, none⟩) H1.out.c.lt).trans c4
  rw [← HRB.out] at c4 f4 c4a
  refine wp_region_noPanic ?_
  go_region_law
    (first
      | (refine step_append_own encN_len encN_one Tryd.underlying22 infoN rfl (by decide) (by decide) F.B0 _ (by rfl) (.tmp 8) (.tmp 10) (by rfl) (by rfl) _ S.w (by rfl) (OR.below H1.out.wo (by first | exact (below_one _ _).drew | exact (below_one _ _) | exact (Below.refl _ _).drew.trans (below_one _ _))) (x, y) _ (by rfl) (by rfl) (by have := HL.out; omega) (by have := HRS.out; first | omega | (simp; omega)) _ (by first | exact World.alloc_heap_new _ _) ?_; intro v5 w5 ho5 hb5 hg5; obtain ⟨A5, c5, q5, rfl⟩ := or_form encN_len ho5; have HR5 := Lib.hid (WrW.grownO H1.out (by first | exact (below_one _ _).drew | exact (below_one _ _) | exact (Below.refl _ _).drew.trans (below_one _ _)) hg5 ho5); have HFR := Lib.hid (HFAR.out _ w5 (.slice A5 q5 c5) (by first | exact (below_one _ _).drew | exact (below_one _ _) | exact (Below.refl _ _).drew.trans (below_one _ _)) hg5); have HC5 : Hid (R5 w5 rb _ _ _ _ _) := Lib.hid (by rw [HRB.out]; exact (H1.out.below (by first | exact (below_one _ _).drew | exact (below_one _ _) | exact (Below.refl _ _).drew.trans (below_one _ _))).c.block (hg5.block F.rb (Nat.lt_of_lt_of_le H1.out.rl (by have := HRS.out; first | omega | (simp; omega))) (fun e => by have h9 := (World.ownsRow.lt H1.out.wo _ e.symm).1; have := H1.out.rl; omega)) hg5.size); have k4 := HC5.out.c4; have k5 := HC5.out.f 4; clear ho5 hb5 hg5)
      | fail)
  all_goals
    refine NoPanic.normal ?_
    go_wp2
    go_end0
    rw [HRB.out]
    exact ⟨⟨rfl, ⟨_, _, HR5.out.1⟩, (Wt.below HB1.out).trans HR5.out.2⟩, HFR.out⟩
theorem put_any (F : Fx) (S : St) (vw vo : Value) (x y : Int) (w : World) (h : WrW F w S vw vo) (hl : S.w.length ≤ 90000) :
    Calls Tryd.prog 43 #[.pointer (some ⟨F.rb, 0, none⟩), .agg #[.int .i64 x, .int .i64 y]] w (StepP F w ⟨S.ng, S.wt, S.w ++ [(x, y)]⟩) := (put_far F S vw vo x y w h hl).mono (fun _ _ h => h.1)
set_option maxRecDepth 20000 in
set_option maxHeartbeats 2000000 in
theorem left_any (F : Fx) (S : St) (vw vo : Value) (j : Nat) (w : World) (h : WrW F w S vw vo) (hj : 0 < j ∧ j ≤ F.m) (hlt : ∃ b : Nat, F.B.getD (j - 1) 0 = (b : Int) ∧ b ≤ 1000) :
    Calls Tryd.prog 42 #[.pointer (some ⟨F.rb, 0, none⟩), .int .i64 (j : Int)] w fun e w' => e = .returned (.int .i64 (F.B.getD (j - 1) 0 - 1)) ∧ w = w' := by
  obtain ⟨b, hb, hb2⟩ := hlt
  have hbl := h.bl
  obtain ⟨bb, off, e, hbb, hc⟩ := h.b.at_ (i := j - 1) (by omega)
  have c1 := h.c.c1
  rw [e] at c1
  rw [hb] at hc ⊢
  obtain ⟨i, rfl⟩ : ∃ i, j = i + 1 := ⟨j - 1, by omega⟩
  rw [Nat.add_sub_cancel] at hc
  have hi : i < F.m := by omega
  have hm := h.mx
  generalize F.rb = rb at *
  generalize F.m = m at *
  generalize F.d = d at *
  clear h hb hbl e
  go_enter Tryd.func42, Tryd.ntmps42
  go_wp2
  go_ret
  exact ⟨rfl, rfl⟩
end Go.Proofs.YtmdfiamffipbcaaDoor.nf
