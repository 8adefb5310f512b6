/- The program's writer: what it keeps; sign, put, left. -/
import Derived.Test.YtmdfiamffipbcaaDoorNnfPure
import Derived.Test.YtmdfiamffipbcaaDoorLtlIa
import Derived.Test.YtmdfiamffipbcaaDoorLtlNd
import Derived.RangeFuncWrites
import Derived.Deep.RegionHeld3
import Derived.Deep.Cut
import Derived.Lib.OwnKind
import Derived.Deep.RegionLaw
import Derived.Laws.ResultCell
import Derived.Lib.BufferWrite
namespace Go.Proofs.YtmdfiamffipbcaaDoor.nf
open Go.ChangeShapes Go.WideShapes Go.ChangeAt Go.RowKit Go.Deep sr lt

/-- The table lies where the program has it. -/
def FmW (w : World) : Prop := ∀ k : Nat, k < 13 → w.cell? ⟨0, k * 3, none⟩ = some (.int .i64 (tabF.getD k (0, 0, 0)).1) ∧ w.cell? ⟨0, k * 3 + 1, none⟩ = some (.int .i64 (tabF.getD k (0, 0, 0)).2.1) ∧ w.cell? ⟨0, k * 3 + 2, none⟩ = some (.int .i64 (tabF.getD k (0, 0, 0)).2.2)
theorem FmW.lt {w : World} (h : FmW w) : 0 < w.heap.size := by
  have h0 := (h 0 (by decide)).1
  rcases Nat.lt_or_ge 0 w.heap.size with hlt | hge
  · exact hlt
  · simp [World.cell?, Array.getElem?_eq_none hge] at h0
theorem FmW.turn {T : Nat → Prop} {w w' : World} (h : FmW w) (k : Turn T w w') (hT : ¬ T 0) : FmW w' := fun i hi =>
  ⟨(k.cell (p := ⟨0, i * 3, none⟩) h.lt hT).trans (h i hi).1, (k.cell (p := ⟨0, i * 3 + 1, none⟩) h.lt hT).trans (h i hi).2.1, (k.cell (p := ⟨0, i * 3 + 2, none⟩) h.lt hT).trans (h i hi).2.2⟩
theorem FmW.below {w w' : World} (h : FmW w) (k : Below w.heap.size w w') : FmW w' := h.turn (T := fun _ => False) (Turn.of_below k) (fun h => h)

theorem results_cell {fn : Func} {p : Tmp} {ty : TypeId} (h : fn.results = #[.cell p ty]) (tmps : Array Value) (P : Program) (w : World) :
    (results fn tmps).run P w = ((asAddr (tmps.getD p undef)).run P w).andThen fun a w₁ => (loadVar ty a).run P w₁ := by
  simp only [results, h]
  simp [Sem.run_bind, Result.andThen]
set_option maxRecDepth 20000 in
set_option maxHeartbeats 2000000 in
theorem sign_any (op : Int) (ng : Bool) (w : World) (hop : 0 ≤ op ∧ op < 13) (hF : FmW w) : Calls Tryd.prog 44 #[.int .i64 op, .bool ng] w fun e w' => e = .returned (.agg #[.int .i64 (sgF op ng), .int .i64 0]) ∧ Below w.heap.size w w' := by
  obtain ⟨k, rfl⟩ : ∃ k : Nat, op = (k : Int) := ⟨op.toNat, by omega⟩
  have hk : k < 13 := by omega
  have hb1 := below_one w (.cells #[.int .i64 0, .int .i64 0] 38)
  obtain ⟨c1, c2, _⟩ := (hF.below hb1) k hk
  have HB1 := Lib.hid hb1
  have HS : Hid ((tabF.getD k (0, 0, 0)).1 = sgF k false ∧ (tabF.getD k (0, 0, 0)).2.1 = sgF k true) := Lib.hid ⟨rfl, rfl⟩
  rw [HS.out.1] at c1
  rw [HS.out.2] at c2
  clear hF hb1 hop
  obtain ⟨v, HV⟩ : ∃ v, Hid (sgF k ng = v) := ⟨_, Lib.hid rfl⟩
  cases ng with
  | true =>
    rw [HV.out] at c2 ⊢
    go_enter Tryd.func44, Tryd.ntmps44
    go_wp2
    (try simp only [Exit.inBlock, Exit.then])
    refine bodyPost_ret (v := .agg #[.int .i64 v, .int .i64 0]) ?_ rfl ⟨rfl, ?_⟩
    · rw [results_cell rfl]; go_simp
    exact below_one _ _
  | false =>
    rw [HV.out] at c1 ⊢
    go_enter Tryd.func44, Tryd.ntmps44
    go_wp2
    (try simp only [Exit.inBlock, Exit.then])
    refine bodyPost_ret (v := .agg #[.int .i64 v, .int .i64 0]) ?_ rfl ⟨rfl, ?_⟩
    · rw [results_cell rfl]; go_simp
    exact below_one _ _

/-- A constant that waits, as cells; rows of them of the call's own. -/
def encC (x : Int × Int) : List Value := [.int .i64 x.1, .int .i64 0, .int .i64 x.2]
theorem encC_len (x : Int × Int) : (encC x).length = 3 := rfl
theorem encC_one (x : Int × Int) : ∀ u ∈ encC x, u.oneCell' = true := fun u hu => by
  simp [encC] at hu
  rcases hu with rfl | rfl | rfl <;> rfl
theorem infoC : (Tryd.prog.info? 75).map (fun i => (i.zero, i.size, i.bytes)) = some (some (.agg #[.int .i64 0, .int .i64 0, .int .i64 0]), 3, 24) := by kernel_rfl
abbrev OC (base : Nat) (w : World) (v : Value) (l : List (Int × Int)) : Prop := OR encC 3 base 75 w v l
/-- Rows of unlike kinds lie apart. -/
theorem kinds_apart {α β : Type} {enc : α → List Value} {enc2 : β → List Value} {s1 s2 b1 b2 : Nat} {e1 e2 : TypeId} {w w' : World} {v lv : Value} {L : List α} {l : List β} (hne : e1 ≠ e2) (hO : OR enc s1 b1 e1 w v L) (hL : OR enc2 s2 b2 e2 w lv l) (hg : w.grownBy w' v.ownBlock) : OR enc2 s2 b2 e2 w' lv l := by
  refine World.ownsRow.kept hL hg ?_
  rcases hv : lv.ownBlock with _ | b
  · exact .inl rfl
  · refine .inr (fun e => ?_)
    obtain ⟨c1, f1, k1⟩ := Lib.ownsRow_kind hL b hv
    obtain ⟨c2, f2, k2⟩ := Lib.ownsRow_kind hO b e.symm
    rw [k1] at k2
    injection k2 with k2
    injection k2 with _ k2
    exact hne k2.symm
/-- The blocks that turn: the writer's, the flags', the rows' own. -/
def TT (rb nb B0 : Nat) (k : Nat) : Prop := k = rb ∨ k = nb ∨ B0 ≤ k
/-- What a step of the writer leaves as it was. -/
structure Wt (rb nb B0 : Nat) (w w' : World) : Prop where
  t : Turn (TT rb nb B0) w w'
  k : KeepsFrom 0 w w'
theorem Wt.refl (rb nb B0 : Nat) (w : World) : Wt rb nb B0 w w := ⟨Turn.refl _ _, KeepsFrom.refl _ _⟩
theorem Wt.trans {rb nb B0 : Nat} {a b c : World} (h : Wt rb nb B0 a b) (k : Wt rb nb B0 b c) : Wt rb nb B0 a c := ⟨h.t.trans k.t, h.k.trans k.k⟩
theorem Wt.below {rb nb B0 : Nat} {w w' : World} (h : Below w.heap.size w w') : Wt rb nb B0 w w' := ⟨Turn.of_below h, ⟨h.size, fun k o _ hk _ => (h.block k (Array.getElem?_eq_some_iff.1 hk).1).trans hk⟩⟩
theorem Wt.grow {rb nb B0 : Nat} {w X w' : World} {e : TypeId} {size : Nat} {v : Value} {n : Nat} {xs : List Value} (hb : Wt rb nb B0 w X) (hg : X.grownBy w' v.ownBlock) (ho : X.ownsRow B0 e size v n xs) : Wt rb nb B0 w w' :=
  hb.trans ⟨⟨hg.os, hg.tape, hg.output, hg.size, fun k hk hT => hg.block k hk (fun e => hT (.inr (.inr (World.ownsRow.lt ho k e.symm).1)))⟩,
    ⟨hg.size, fun k o _ hk hc => (hg.block k (Array.getElem?_eq_some_iff.1 hk).1 (fun e => by
      obtain ⟨c, f, k1⟩ := Lib.ownsRow_kind ho k e.symm
      rw [k1] at hk
      cases hk
      cases hc)).trans hk⟩⟩
theorem Wt.set {rb nb B0 : Nat} {w w' : World} (h : Wt rb nb B0 w w') (b i : Nat) (v : Value) (hT : TT rb nb B0 b) (hc : ∀ o, w'.heap[b]? = some o → o.isCells = true) : Wt rb nb B0 w (w'.setCell ⟨b, i, none⟩ v) :=
  ⟨h.t.set ⟨b, i, none⟩ v hT, h.k.trans ⟨by simp, fun k o _ hk ho => by
    by_cases e : k = b
    · subst e
      have := hc o hk
      rw [this] at ho
      cases ho
    · exact (Below.heap_setCell w' ⟨b, i, none⟩ v k e).trans hk⟩⟩
/-- Five cells of a block that may be written. -/
structure R5 (w : World) (b : Nat) (v0 v1 v2 v3 v4 : Value) : Prop where
  c0 : w.cell? ⟨b, 0, none⟩ = some v0
  c1 : w.cell? ⟨b, 1, none⟩ = some v1
  c2 : w.cell? ⟨b, 2, none⟩ = some v2
  c3 : w.cell? ⟨b, 3, none⟩ = some v3
  c4 : w.cell? ⟨b, 4, none⟩ = some v4
  f : ∀ j, w.frozen? ⟨b, j, none⟩ = false
  lt : b < w.heap.size
theorem isC_of {w : World} {b i : Nat} {v : Value} (h : w.cell? ⟨b, i, none⟩ = some v) : ∀ o, w.heap[b]? = some o → o.isCells = true := fun o ho => by
  cases o <;> simp [World.cell?, ho] at h <;> rfl
theorem R5.block {w w' : World} {b : Nat} {v0 v1 v2 v3 v4 : Value} (h : R5 w b v0 v1 v2 v3 v4) (k : w'.heap[b]? = w.heap[b]?) (hs : w.heap.size ≤ w'.heap.size) : R5 w' b v0 v1 v2 v3 v4 :=
  ⟨(World.cell?_of_block (a := ⟨b, 0, none⟩) k).trans h.c0, (World.cell?_of_block (a := ⟨b, 1, none⟩) k).trans h.c1, (World.cell?_of_block (a := ⟨b, 2, none⟩) k).trans h.c2, (World.cell?_of_block (a := ⟨b, 3, none⟩) k).trans h.c3, (World.cell?_of_block (a := ⟨b, 4, none⟩) k).trans h.c4, fun j => by rw [← h.f j]; simp only [World.frozen?, k], Nat.lt_of_lt_of_le h.lt hs⟩
theorem r5_ne (b i j : Nat) (h : i ≠ j) : (⟨b, i, none⟩ : Addr) ≠ ⟨b, j, none⟩ := fun e => by
  injection e with _ e _
  exact h e
theorem R5.set3 {w : World} {b : Nat} {v0 v1 v2 v3 v4 : Value} (h : R5 w b v0 v1 v2 v3 v4) (v : Value) : R5 (w.setCell ⟨b, 3, none⟩ v) b v0 v1 v2 v v4 :=
  ⟨(World.cell?_setCell_other _ _ _ _ (r5_ne b 3 0 (by decide))).trans h.c0, (World.cell?_setCell_other _ _ _ _ (r5_ne b 3 1 (by decide))).trans h.c1, (World.cell?_setCell_other _ _ _ _ (r5_ne b 3 2 (by decide))).trans h.c2, World.cell?_setCell_same _ _ _ h.c3, (World.cell?_setCell_other _ _ _ _ (r5_ne b 3 4 (by decide))).trans h.c4, fun j => (by simpa using h.f j), by simpa using h.lt⟩
theorem R5.set4 {w : World} {b : Nat} {v0 v1 v2 v3 v4 : Value} (h : R5 w b v0 v1 v2 v3 v4) (v : Value) : R5 (w.setCell ⟨b, 4, none⟩ v) b v0 v1 v2 v3 v :=
  ⟨(World.cell?_setCell_other _ _ _ _ (r5_ne b 4 0 (by decide))).trans h.c0, (World.cell?_setCell_other _ _ _ _ (r5_ne b 4 1 (by decide))).trans h.c1, (World.cell?_setCell_other _ _ _ _ (r5_ne b 4 2 (by decide))).trans h.c2, (World.cell?_setCell_other _ _ _ _ (r5_ne b 4 3 (by decide))).trans h.c3, World.cell?_setCell_same _ _ _ h.c4, fun j => (by simpa using h.f j), by simpa using h.lt⟩
/-- What stays as it is while the writer works. -/
structure Fx where
  rb : Nat
  nb : Nat
  B0 : Nat
  m : Nat
  A : Option Addr
  c : Nat
  Bb : Option Addr
  d : Nat
  e : List (Int × Int)
  B : List Int
/-- The writer, as it lies. -/
structure WrW (F : Fx) (w : World) (S : St) (vw vo : Value) : Prop where
  c : R5 w F.rb (.slice F.A F.m F.c) (.slice F.Bb F.m F.d) (.slice (some ⟨F.nb, 0, none⟩) F.m F.m) vw vo
  n : w.rowIs F.nb 4 F.m (fun k => .bool (S.ng.getD k false))
  nl : S.ng.length = F.m
  wt : OC F.B0 w vw S.wt
  wo : ON F.B0 w vo S.w
  a : PA w F.A F.e
  b : IA w F.Bb F.B
  fm : FmW w
  ml : F.m = F.e.length
  bl : F.m = F.B.length
  na : ∀ a, F.A = some a → ¬ TT F.rb F.nb F.B0 a.block
  nbb : ∀ a, F.Bb = some a → ¬ TT F.rb F.nb F.B0 a.block
  ng : ¬ TT F.rb F.nb F.B0 0
  rn : F.rb ≠ F.nb
  rl : F.rb < F.B0
  nlt : F.nb < F.B0
  sz : F.B0 ≤ w.heap.size
  mx : F.m ≤ 1000
theorem WrW.below {F : Fx} {w w' : World} {S : St} {vw vo : Value} (h : WrW F w S vw vo) (k : Below w.heap.size w w') : WrW F w' S vw vo :=
  { h with c := h.c.block (k.block _ h.c.lt) k.size, n := h.n.of_block (k.block _ h.n.lt), wt := OR.below h.wt k, wo := OR.below h.wo k, a := h.a.below k, b := h.b.turn (T := fun _ => False) (Turn.of_below k) (fun _ _ h => h), fm := h.fm.below k, sz := Nat.le_trans h.sz k.size }
/-- What a step of the writer leaves. -/
def StepP (F : Fx) (w : World) (S : St) (e : Ending) (w' : World) : Prop := e = .returned (.tuple #[]) ∧ (∃ vw vo, WrW F w' S vw vo) ∧ Wt F.rb F.nb F.B0 w w'
end Go.Proofs.YtmdfiamffipbcaaDoor.nf
