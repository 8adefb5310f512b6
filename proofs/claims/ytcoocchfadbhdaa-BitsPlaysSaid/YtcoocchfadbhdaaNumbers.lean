/- The law's numbers: what an iterator of a set tells, up to as many as one asks. -/
import Derived.Test.YtcoocchfadbhdaaAllOver
import Derived.Maps.OwnIn
import Derived.Deep.Onto
namespace Go.Proofs.Ytcoocchfadbhdaa
open Go.ChangeShapes Go.WideShapes Go.ChangeAt Go.RowKit Go.Shelf

attribute [local go_sem] Oper.semAt_some

/-- The block of the row that the box Bo holds. -/
def rowB (V : World) (Bo : Nat) : Option Nat := match V.cell? ⟨Bo, 0, none⟩ with
  | some v => v.ownBlock
  | none => none
theorem rowB_eq {V : World} {Bo : Nat} {v : Value} (h : V.cell? ⟨Bo, 0, none⟩ = some v) : rowB V Bo = v.ownBlock := by
  unfold rowB; rw [h]
/-- What a body keeps that writes the box Bo and the row that it holds. -/
structure KpN (Bo L : Nat) (V V' : World) : Prop where
  oth : KeepsFrom L V V'
  cell : (∃ v, V.cell? ⟨Bo, 0, none⟩ = some v) → ∃ v, V'.cell? ⟨Bo, 0, none⟩ = some v
  row : ∀ r, rowB V' Bo = some r → rowB V Bo = some r ∨ (V.heap.size ≤ r ∧ r < V'.heap.size)
  keep : ∀ k o, V.heap[k]? = some o → k ≠ Bo → rowB V Bo ≠ some k → k + 1 ≠ L → V'.heap[k]? = some o
def okN (Bo L : Nat) (V : World) : Prop := Bo < L ∧ L ≤ V.heap.size ∧ (∃ v, V.cell? ⟨Bo, 0, none⟩ = some v) ∧ ∀ r, rowB V Bo = some r → r < V.heap.size
def fineN (Bo L : Nat) (V : World) (k : Nat) : Prop := k ≠ Bo ∧ rowB V Bo ≠ some k ∧ k + 1 ≠ L

theorem KpN.trans {Bo L : Nat} {A B C : World} (h : KpN Bo L A B) (k : KpN Bo L B C) : KpN Bo L A C := by
  refine ⟨h.oth.trans k.oth, fun e => k.cell (h.cell e), fun r hr => ?_, fun q o hq h1 h2 h3 => ?_⟩
  · have s1 := h.oth.size
    have s2 := k.oth.size
    rcases k.row r hr with e | e
    · rcases h.row r e with e | e
      · exact .inl e
      · exact .inr (by omega)
    · exact .inr (by omega)
  · have hl := (Array.getElem?_eq_some_iff.1 hq).1
    refine k.keep q o (h.keep q o hq h1 h2 h3) h1 (fun e => ?_) h3
    rcases h.row q e with e | e
    · exact h2 e
    · omega
theorem rowB_kept {V V' : World} {Bo : Nat} {row : Option Nat} (hc : ∃ v, V.cell? ⟨Bo, 0, none⟩ = some v) (hg : V.grownBy V' row) (hr : ∀ r, row = some r → ∃ o : Obj, V.heap[r]? = some o ∧ o.isCells = false) : rowB V' Bo = rowB V Bo ∧ ∃ v, V'.cell? ⟨Bo, 0, none⟩ = some v := by
  obtain ⟨v, hv⟩ := hc
  have hv' := cell_kept hv hg hr
  exact ⟨by rw [rowB_eq hv, rowB_eq hv'], v, hv'⟩
theorem guardsN (Bo L : Nat) : Guards L (KpN Bo L) (fineN Bo L) (okN Bo L) where
  others := fun h => h.oth
  keep := fun _ hk hf h => hk.keep _ _ h hf.1 hf.2.1 hf.2.2
  still := fun _ hk hf hl => ⟨hf.1, fun e => by
    rcases hk.row _ e with e | e
    · exact hf.2.1 e
    · omega, hf.2.2⟩
  goes := fun ho hk => ⟨ho.1, Nat.le_trans ho.2.1 hk.oth.size, hk.cell ho.2.2.1, fun r hr => by
    have s1 := hk.oth.size
    rcases hk.row r hr with e | e
    · have := ho.2.2.2 r e; omega
    · omega⟩
  turn := fun ho hg hr => by
    obtain ⟨e1, e2⟩ := rowB_kept ho.2.2.1 hg hr
    exact ⟨⟨ho.1, Nat.le_trans ho.2.1 hg.size, e2, fun r hr' => by rw [e1] at hr'; have := ho.2.2.2 r hr'; have := hg.size; omega⟩, fun k hf => ⟨hf.1, by rw [e1]; exact hf.2.1, hf.2.2⟩⟩
  new := fun {V k} ho hk => ⟨by have := ho.1; have := ho.2.1; omega, fun e => by have := ho.2.2.2 k e; omega, by have := ho.2.1; omega⟩

/-- The box Bo holds a row of ints of the call's own. -/
def Out (base Bo : Nat) (V : World) (l : List Int) : Prop := ∃ v, V.cell? ⟨Bo, 0, none⟩ = some v ∧ V.frozen? ⟨Bo, 0, none⟩ = false ∧ OI base V v l ∧ v.ownBlock ≠ some Bo
theorem oi_cells {base : Nat} {V : World} {v : Value} {l : List Int} (h : OI base V v l) : ∀ r, v.ownBlock = some r → ∃ c, V.heap[r]? = some (.cells c 3 (0, 0)) := fun r hr => by
  rcases h.2 with ⟨rfl, _⟩ | ⟨g, cap, cur, rfl, _, hc, _⟩
  · cases hr
  · injection hr with hr
    subst hr
    exact ⟨cur, hc⟩
theorem Out.turn {base Bo : Nat} {V V' : World} {l : List Int} {row : Option Nat} (h : Out base Bo V l) (hg : V.grownBy V' row) (hr : ∀ r, row = some r → ∃ o : Obj, V.heap[r]? = some o ∧ o.isCells = false) : Out base Bo V' l := by
  obtain ⟨v, h1, h2, h3, h4⟩ := h
  refine ⟨v, cell_kept h1 hg hr, (frozen_kept h1 hg hr).trans h2, World.ownsRow.kept h3 hg ?_, h4⟩
  cases e : v.ownBlock with
  | none => exact .inl rfl
  | some r =>
    refine .inr (fun e2 => ?_)
    obtain ⟨o, ho, hc⟩ := hr r e2.symm
    obtain ⟨c, hcell⟩ := oi_cells h3 r e
    rw [hcell] at ho
    injection ho with ho
    subst ho
    cases hc

/-- append of one int onto a row of the call's own, within a fence. -/
theorem append_oneIn {F : Fence} {n : Nat} {w : World} {ops : Array Oper} {rest : List Oper} {o : Oper} {a : Act} {Q : Exit → Act → World → Prop} (hgd : o.guard = none) (s x : Operand)
    (ho : o.op = .call { callee := .builtin .append, args := #[s, x], argTypes := #[37, 37] })
    (base : Nat) (v : Value) (l : List Int) (hs : a.eval s = v) (hown : OI base w v l) (z : Int)
    (hx : a.eval x = .slice (some ⟨w.heap.size, 0, none⟩) 1 1)
    (hlen : l.length + 1 ≤ 17592186044416) (hbase : base ≤ w.heap.size)
    (h : ∀ v' w', OI base w' v' (l ++ [z]) → (w.alloc (.cells #[.int .i64 z] 3)).grownBy w' v.ownBlock → Below base w w' → (v'.ownBlock = v.ownBlock ∨ v'.ownBlock = some (w.heap.size + 1)) → wpListIn F n Try.prog ops Q rest (a.put o.dst v') w') :
    wpListIn F n Try.prog ops Q (o :: rest) a (w.alloc (.cells #[.int .i64 z] 3)) := by
  obtain ⟨i0, hi, hz0, hz1, hz2⟩ := info_parts Try.info3'
  refine wpListIn_append_own_at _ hgd s x 37 ho base 3 i0 (.int .i64 0) 1 8 Try.underlying37 hi hz0 hz1 hz2 rfl (by decide) v l.length _ hs (hown.alloc _) ⟨w.heap.size, 0, none⟩ 1 1 [.int .i64 z] hx rfl (cell_one_new _ _ _) (by simp [Value.oneCell']) (by unfold maxLen; omega) (by omega) (by simp; omega) ?_
  intro v' w' hown' hgrow _ hb
  refine h v' w' (oi_snoc hown') hgrow (Below.grown ((Below.refl _ _).alloc hbase _) hgrow (by simp; omega) (fun k hk => (hown.lt k hk).1)) ?_
  rcases hb with hb | hb
  · exact .inl hb
  · exact .inr (by rw [hb]; simp)

/-- A number more: what the store of the row that append gives leaves. -/
theorem out_step {base Bo L : Nat} {V w3 : World} {l : List Int} {v v3 : Value} {x : Int} (hBV : Bo < V.heap.size) (hc : V.cell? ⟨Bo, 0, none⟩ = some v) (hf : V.frozen? ⟨Bo, 0, none⟩ = false) (ho : OI base V v l) (hne : v.ownBlock ≠ some Bo)
    (ho3 : OI base w3 v3 (l ++ [x])) (hg3 : (V.alloc (.cells #[.int .i64 x] 3)).grownBy w3 v.ownBlock) (hn3 : v3.ownBlock = v.ownBlock ∨ v3.ownBlock = some (V.heap.size + 1)) :
    Out base Bo (w3.setCell ⟨Bo, 0, none⟩ v3) (l ++ [x]) ∧ KpN Bo L V (w3.setCell ⟨Bo, 0, none⟩ v3) ∧ KeepsOthers V (w3.setCell ⟨Bo, 0, none⟩ v3) ∧ w3.cell? ⟨Bo, 0, none⟩ = some v ∧ w3.frozen? ⟨Bo, 0, none⟩ = false := by
  have kA : ∀ k o, V.heap[k]? = some o → some k ≠ v.ownBlock → w3.heap[k]? = some o := fun k o hk hkr => by
    have hl := (Array.getElem?_eq_some_iff.1 hk).1
    rw [hg3.block k (by simp; omega) hkr, Below.heap_alloc _ _ _ hl]
    exact hk
  have eB : w3.heap[Bo]? = V.heap[Bo]? := by
    cases e : V.heap[Bo]? with
    | none => rw [Array.getElem?_eq_none_iff] at e; omega
    | some o => exact kA Bo o e (fun e2 => hne e2.symm)
  have c3 : w3.cell? ⟨Bo, 0, none⟩ = some v := (World.cell?_of_block (a := ⟨Bo, 0, none⟩) eB).trans hc
  have f3 : w3.frozen? ⟨Bo, 0, none⟩ = false := (World.frozen?_of_block (a := ⟨Bo, 0, none⟩) eB).trans hf
  have n3 : v3.ownBlock ≠ some Bo := by
    rcases hn3 with e | e
    · rw [e]; exact hne
    · rw [e]; intro e2; injection e2 with e2; omega
  have cN := World.cell?_setCell_same' w3 ⟨Bo, 0, none⟩ v3 (by rw [c3]; rfl)
  have z3 : V.heap.size + 1 ≤ w3.heap.size := by have := hg3.size; simp at this; omega
  have r3 : ∀ r, v3.ownBlock = some r → r < w3.heap.size := fun r hr => (ho3.lt r hr).2
  have hoth : KeepsOthers V (w3.setCell ⟨Bo, 0, none⟩ v3) := by
    refine ((KeepsOthers.alloc V _).trans (KeepsOthers.of_grownBy hg3 (fun j o hj hjo => ?_))).trans (KeepsOthers.setCell _ _ _)
    obtain ⟨c, hc⟩ := oi_cells ho j hj
    rw [Below.heap_alloc _ _ _ (Array.getElem?_eq_some_iff.1 hc).1, hc] at hjo
    injection hjo with hjo
    rw [← hjo]
    rfl
  refine ⟨⟨v3, cN, by rw [World.frozen?_setCell]; exact f3, World.ownsRow.kept ho3 (row := some Bo) ⟨rfl, rfl, rfl, by simp, fun k _ hk => Below.heap_setCell w3 ⟨Bo, 0, none⟩ _ k (fun e => hk (by rw [e]))⟩ (.inr n3), n3⟩,
    ⟨hoth.from L, fun _ => ⟨_, cN⟩, fun r hr => ?_, fun k o hk h1 h2 _ => ?_⟩, hoth, c3, f3⟩
  · rw [rowB_eq cN] at hr
    rcases hn3 with e | e
    · rw [e] at hr
      rw [rowB_eq hc]
      exact .inl hr
    · have := r3 r hr
      rw [e] at hr
      injection hr with hr
      exact .inr (by simp; omega)
  · rw [rowB_eq hc] at h2
    exact (Below.heap_setCell w3 ⟨Bo, 0, none⟩ _ k h1).trans (kA k o hk (fun e => h2 e.symm))

/-- A row stays when a mark is taken away. -/
theorem oi_put {base base' D : Nat} {V : World} {v : Value} {l : List Int} {o o' : Option (List Deferred)} (h : OI base V v l) (hb : base' ≤ base) (hD : V.heap[D]? = some (.deferred o)) : OI base' (V.putObj D (.deferred o')) v l := by
  refine World.ownsRow.kept (World.ownsRow.mono h hb) (grownBy_putObj' V D _) ?_
  cases e : v.ownBlock with
  | none => exact .inl rfl
  | some r =>
    refine .inr (fun e2 => ?_)
    injection e2 with e2
    subst e2
    obtain ⟨c, hc⟩ := oi_cells h r e
    rw [hD] at hc
    cases hc
/-- What numbers leaves. -/
def Told (w : World) (l : List Nat) (e : Ending) (w' : World) : Prop := ∃ v, e = .returned (.tuple #[v, .bool true]) ∧ OI w.heap.size w' v (pli l) ∧ Below w.heap.size w w'

set_option maxRecDepth 100000 in
set_option maxHeartbeats 4000000 in
theorem numbers_any (s t sz m : Nat) (g : Nat → Bool) (w : World) (hS : ST w s t sz g) (hm : 1 ≤ m) (hm2 : m ≤ 1000000) :
    Calls Try.prog 34 #[.pointer (some ⟨s, 0, none⟩), .int .i64 (m : Nat)] w (Told w ((memW g (SW sz)).take m)) := by
  have HS := Lib.hid hS
  clear hS
  refine (callsIn_wide (n := 5)).1 ?_
  refine callsIn_of_wp_marks Try.func34 rfl trivial ?_ rfl
  simp only [Try.ntmps34, List.size_toArray, List.length_cons, List.length_nil, Nat.reduceAdd, Nat.reduceSub, Array.replicate_succ, Array.replicate_zero, List.push_toArray, List.append_toArray, List.nil_append, List.cons_append]
  gi_wp2_with fail
  refine ⟨trivial, ?_⟩
  refine (callsIn_wide.2 (all_any _ _)).mono ?_
  rintro e w1 ⟨rfl, rfl⟩
  have hsq := Try.seqNotNil
  gi_wp2_with fail
  clear hsq
  have k1 := cell_new_l w (.int .i64 (m : Nat)) 3
  have k2 := cell_new_l (w.alloc (.cells #[.int .i64 (m : Nat)] 3)) (.slice none 0 0) 37
  have k3 := cell_new_l ((w.alloc (.cells #[.int .i64 (m : Nat)] 3)).alloc (.cells #[.slice none 0 0] 37)) (.pointer (some ⟨s, 0, none⟩)) 23
  simp only [World.size_alloc] at k2 k3
  have p1 := cell_alloc_l (.cells #[.pointer (some ⟨s, 0, none⟩)] 23) (cell_alloc_l (.cells #[.slice none 0 0] 37) k1.1)
  have p2 := cell_alloc_l (.cells #[.pointer (some ⟨s, 0, none⟩)] 23) k2.1
  have p2f := frozen_alloc_l (.cells #[.pointer (some ⟨s, 0, none⟩)] 23) k2.1 k2.2
  have p3 := k3.1
  have hB0 : Below w.heap.size w (((w.alloc (.cells #[.int .i64 (m : Nat)] 3)).alloc (.cells #[.slice none 0 0] 37)).alloc (.cells #[.pointer (some ⟨s, 0, none⟩)] 23)) := (((Below.refl _ w).alloc (Nat.le_refl _) _).alloc (by simp) _).alloc (by simp; omega) _
  have hzW : (((w.alloc (.cells #[.int .i64 (m : Nat)] 3)).alloc (.cells #[.slice none 0 0] 37)).alloc (.cells #[.pointer (some ⟨s, 0, none⟩)] 23)).heap.size = w.heap.size + 3 := by simp
  clear k1 k2 k3
  generalize ((w.alloc (.cells #[.int .i64 (m : Nat)] 3)).alloc (.cells #[.slice none 0 0] 37)).alloc (.cells #[.pointer (some ⟨s, 0, none⟩)] 23) = W0 at *
  have hS0 : ST W0 s t sz g := HS.out.keep hB0
  have ht0 := HS.out.words.lt
  refine wpIn_over (gf := 59) (lb := #[.pointer (some ⟨w.heap.size + 1 + 1, 0, none⟩)]) rfl (enters_of Try.func59 (by kernel_rfl) rfl) (all_over s t sz (w.heap.size + 1 + 1) g W0 hS0 p3) (fun _ => rfl)
    (KpN (w.heap.size + 1) (W0.heap.size + 2)) (fineN (w.heap.size + 1) (W0.heap.size + 2)) (okN (w.heap.size + 1) (W0.heap.size + 2)) (guardsN _ _) KpN.trans ?hKb ?ok0
    (fun pre V => (Out W0.heap.size (w.heap.size + 1) V (pli pre) ∧ pre.length < m ∧ V.cell? ⟨w.heap.size, 0, none⟩ = some (.int .i64 (m : Nat)) ∧ W0.heap.size ≤ V.heap.size) ∧ Below w.heap.size w V)
    (fun cd pre V => (cd = .exit 0 ∧ Out W0.heap.size (w.heap.size + 1) V (pli pre) ∧ pre.length = m) ∧ Below w.heap.size w V)
    ?hI ?hIx ?h0 (fun x a' => a' = { tmps := #[.pointer (some ⟨s, 0, none⟩), .int .i64 (m : Nat), undef, .pointer (some ⟨w.heap.size, 0, none⟩), .slice none 0 0, .bool false, .pointer (some ⟨w.heap.size + 1, 0, none⟩), .func (.func 59) #[] #[.pointer (some ⟨w.heap.size + 1 + 1, 0, none⟩)], .int .i64 (x : Nat), .pointer (some ⟨s, 0, none⟩), .func (.func 59) #[] #[.pointer (some ⟨w.heap.size + 1 + 1, 0, none⟩)], .func (.func 59) #[] #[.pointer (some ⟨w.heap.size + 1 + 1, 0, none⟩)], .bool false, .func (.func 59) #[] #[.pointer (some ⟨w.heap.size + 1 + 1, 0, none⟩)], .int .i64 (x : Nat), undef, undef, undef, undef, undef, undef, undef, undef, undef], defers := [] }) ?assign ?body ?done ?stop
  case hKb =>
    intro V o o' h hc
    have hl := (Array.getElem?_eq_some_iff.1 h).1
    have hcell : (V.putObj (W0.heap.size + 1) o').cell? ⟨w.heap.size + 1, 0, none⟩ = V.cell? ⟨w.heap.size + 1, 0, none⟩ := World.cell?_of_block (a := ⟨w.heap.size + 1, 0, none⟩) (World.putObj_heap_other (by show w.heap.size + 1 ≠ W0.heap.size + 1; omega))
    have hrow : rowB (V.putObj (W0.heap.size + 1) o') (w.heap.size + 1) = rowB V (w.heap.size + 1) := by unfold rowB; rw [hcell]
    exact ⟨KeepsFrom.of_grownBy (grownBy_putObj' V _ o') (fun j e => by injection e with e; omega), fun ⟨v, hv⟩ => ⟨v, by rw [hcell]; exact hv⟩, fun r hr => .inl (by rw [← hrow]; exact hr),
      fun q o2 hq _ _ hq3 => (World.putObj_heap_other (by omega)).trans hq⟩
  case ok0 =>
    intro V hb hz
    have hc : V.cell? ⟨w.heap.size + 1, 0, none⟩ = some (.slice none 0 0) := (hb.cell (p := ⟨w.heap.size + 1, 0, none⟩) (by show w.heap.size + 1 < W0.heap.size; omega)).trans p2
    have hr : rowB V (w.heap.size + 1) = none := rowB_eq hc
    refine ⟨⟨by omega, by omega, ⟨_, hc⟩, fun r e => by rw [hr] at e; cases e⟩, fun q hq => ?_⟩
    obtain rfl : q = t := by simpa using hq
    exact ⟨by omega, by rw [hr]; simp, by omega⟩
  case hI =>
    refine OwnFrom.and (Own.from (fun q X Y row hs hg hr => ?_) _) (ownFrom_below (Nat.le_refl _) (by omega))
    exact ⟨hs.1.turn hg hr, hs.2.1, cell_kept hs.2.2.1 hg hr, by have := hg.size; omega⟩
  case hIx =>
    refine fun cd => OwnFrom.and (Own.from (fun q X Y row hs hg hr => ?_) _) (ownFrom_below (Nat.le_refl _) (by omega))
    exact ⟨hs.1, hs.2.1.turn hg hr, hs.2.2⟩
  case h0 => exact ⟨⟨⟨_, p2, p2f, OI.nil _ _, by simp [Value.ownBlock]⟩, by simp; omega, p1, by omega⟩, hB0⟩
  case assign =>
    intro l x V K hK
    gi_wp2
    rfl
  case body =>
    rintro l pre x a' V ⟨⟨⟨v, h1, h2, h3, h4⟩, h5, h6, h7⟩, hB⟩ rfl hlen
    obtain ⟨A, cp, rfl, _⟩ := h3.form
    have hlp := pli_length pre
    obtain ⟨lp, HLP⟩ : ∃ lp, Hid (pli pre = lp) := ⟨_, Lib.hid rfl⟩
    rw [HLP.out] at h1 h3 h4 hlp
    have hBs := hB.size
    have H3 := Lib.hid h3
    have HH := Lib.hid (And.intro h1 (And.intro h2 (And.intro h4 h6)))
    have HBB := Lib.hid hB
    obtain ⟨q, HQ⟩ : ∃ q, Hid (lp.length = q) := ⟨_, Lib.hid rfl⟩
    have HPQ : Hid (pre.length = q) := Lib.hid (by rw [← hlp]; exact HQ.out)
    rw [HPQ.out] at h5
    rw [HQ.out] at h1
    clear h3 h4 hB hlp hlen
    have HB6 : Hid (∀ V' : World, KpN (w.heap.size + 1) (W0.heap.size + 2) V V' → V'.cell? ⟨w.heap.size, 0, none⟩ = some (.int .i64 (m : Nat))) := Lib.hid (fun V' hk => by
      have hlt : w.heap.size < V.heap.size := by omega
      obtain ⟨o, ho⟩ : ∃ o, V.heap[w.heap.size]? = some o := ⟨_, Array.getElem?_eq_getElem hlt⟩
      have := hk.keep w.heap.size o ho (by omega) (fun e => by rw [rowB_eq HH.out.1] at e; have := (H3.out.lt _ e).1; omega) (by omega)
      exact (World.cell?_of_block (w := V) (w' := V') (a := ⟨w.heap.size, 0, none⟩) (by show V'.heap[w.heap.size]? = V.heap[w.heap.size]?; rw [this, ho])).trans HH.out.2.2.2)
    by_cases hqm : q + 1 < m
    · gi_wp2_with (gi_at_builtin; refine append_oneIn rfl (.tmp 15) (.tmp 17) rfl W0.heap.size _ lp (by rw [HQ.out]; rfl) H3.out (x : Int) rfl (by have := HQ.out; omega) h7 ?_; intro v3 w3 ho3 hg3 hb3 hn3; obtain ⟨A3, cp3, rfl, _⟩ := ho3.form; obtain ⟨o1, o2, o3, c3, f3⟩ := out_step (L := W0.heap.size + 2) (by omega) HH.out.1 HH.out.2.1 H3.out HH.out.2.2.1 ho3 hg3 hn3; have O1 := Lib.hid o1; have O2 := Lib.hid o2; have O3 := Lib.hid o3; have hs3 : (lp ++ [(x : Int)]).length = q + 1 := (List.length_append ..).trans (by rw [HQ.out]; rfl); have c6 := (World.cell?_setCell_other w3 ⟨w.heap.size + 1, 0, none⟩ ⟨w.heap.size, 0, none⟩ _ (by simp)).symm.trans (HB6.out _ o2); rw [hs3]; rw [HQ.out] at c3; have HS3 := Lib.hid hs3; have HB3 := Lib.hid hb3; clear o1 o2 o3 ho3 hg3 hb3 hn3 hs3)
      have o1 := O1.out
      have o2 := O2.out
      have o3 := O3.out
      rw [HS3.out] at o1 o2 o3
      have hp : pli (pre ++ [x]) = lp ++ [(x : Int)] := by rw [← HLP.out]; simp [pli]
      have hl : (pre ++ [x]).length = q + 1 := by simp [HPQ.out]
      have hbb := (HBB.out.trans (HB3.out.mono (by omega))).setCell (p := ⟨w.heap.size + 1, 0, none⟩) (by simp) (.slice A3 (q + 1 : Nat) cp3)
      have hsz := HB3.out.size
      exact ⟨o3.from _, o2, ⟨⟨by rw [hp]; exact o1, by rw [hl]; exact hqm, HB6.out _ o2, by simp; omega⟩, hbb⟩⟩
    · gi_wp2_with (gi_at_builtin; refine append_oneIn rfl (.tmp 15) (.tmp 17) rfl W0.heap.size _ lp (by rw [HQ.out]; rfl) H3.out (x : Int) rfl (by have := HQ.out; omega) h7 ?_; intro v3 w3 ho3 hg3 hb3 hn3; obtain ⟨A3, cp3, rfl, _⟩ := ho3.form; obtain ⟨o1, o2, o3, c3, f3⟩ := out_step (L := W0.heap.size + 2) (by omega) HH.out.1 HH.out.2.1 H3.out HH.out.2.2.1 ho3 hg3 hn3; have O1 := Lib.hid o1; have O2 := Lib.hid o2; have O3 := Lib.hid o3; have hs3 : (lp ++ [(x : Int)]).length = q + 1 := (List.length_append ..).trans (by rw [HQ.out]; rfl); have c6 := (World.cell?_setCell_other w3 ⟨w.heap.size + 1, 0, none⟩ ⟨w.heap.size, 0, none⟩ _ (by simp)).symm.trans (HB6.out _ o2); rw [hs3]; rw [HQ.out] at c3; have HS3 := Lib.hid hs3; have HB3 := Lib.hid hb3; clear o1 o2 o3 ho3 hg3 hb3 hn3 hs3)
      have o1 := O1.out
      have o2 := O2.out
      have o3 := O3.out
      rw [HS3.out] at o1 o2 o3
      have hp : pli (pre ++ [x]) = lp ++ [(x : Int)] := by rw [← HLP.out]; simp [pli]
      have hl : (pre ++ [x]).length = q + 1 := by simp [HPQ.out]
      have hbb := (HBB.out.trans (HB3.out.mono (by omega))).setCell (p := ⟨w.heap.size + 1, 0, none⟩) (by simp) (.slice A3 (q + 1 : Nat) cp3)
      have hsz := HB3.out.size
      exact ⟨o3.from _, o2, ⟨⟨rfl, by rw [hp]; exact o1, by omega⟩, hbb⟩⟩
  case done =>
    rintro D ys V hD rfl ⟨⟨⟨v, h1, h2, h3, h4⟩, h5, h6, h7⟩, hB⟩ hK
    have H3 := Lib.hid h3
    have HB := Lib.hid hB
    have H5 := Lib.hid h5
    clear h3 h4 h5 h6 h7 hB
    gi_wp2_with fail
    refine ⟨by simp, .inl ⟨_, _, rfl, run_takeDeferred hK, ?_⟩⟩
    refine ⟨_, ?_, v, rfl, ?_, HB.out.trans (belowK_b (w := w) (Nat.le_refl _) _ D _ _ (by omega) hK rfl rfl)⟩
    · simp [results, Try.f34, go_sem]
    · rw [List.take_of_length_le (Nat.le_of_lt H5.out)]
      exact oi_put H3.out (by omega) hK
  case stop =>
    rintro D cd pre V hD hpre ⟨⟨rfl, ⟨v, h1, h2, h3, h4⟩, h5⟩, hB⟩ hK
    have H3 := Lib.hid h3
    have HB := Lib.hid hB
    have H5 := Lib.hid h5
    have HP := Lib.hid hpre
    clear h3 h4 h5 hB hpre
    gi_wp2_with fail
    refine ⟨by simp, .inl ⟨_, _, rfl, run_takeDeferred hK, ?_⟩⟩
    refine ⟨_, ?_, v, rfl, ?_, HB.out.trans (belowK_b (w := w) (Nat.le_refl _) _ D _ _ (by omega) hK rfl rfl)⟩
    · simp [results, Try.f34, go_sem]
    · rw [← H5.out, ← List.prefix_iff_eq_take.1 HP.out]
      exact oi_put H3.out (by omega) hK
end Go.Proofs.Ytcoocchfadbhdaa
