/- slices.Backward over nodes: the iterator's contract; what the writer keeps while a loop turns. -/
import Derived.Test.YtmdfiamffipbcaaDoorNnfStep
import Derived.Test.YtmdfiamffipbcaaDoorGMarks
import Derived.RangeFuncWrites
namespace Go.Proofs.YtmdfiamffipbcaaDoor.nf
open Go.ChangeShapes Go.WideShapes Go.ChangeAt Go.RowKit Go.Shelf sr lt

attribute [local go_sem] Oper.semAt_some

theorem dn_low (r s : Nat) : dn r (s + 1) = dn (r + 1) s ++ [r] := by
  rw [show s + 1 = 1 + s by omega, dn_add]
  rfl
/-- Nodes' blocks stay. -/
theorem PA.stay {w w' : World} {A : Option Addr} {e : List (Int × Int)} (h : PA w A e) (hk : ∀ a, A = some a → w'.heap[a.block]? = w.heap[a.block]?) : PA w' A e := fun hn => by
  obtain ⟨b, off, rfl, hb, hc⟩ := h hn
  have h1 := hk _ rfl
  refine ⟨b, off, rfl, ?_, fun i hi => ⟨(World.cell?_of_block (a := ⟨b, off + i * 2, none⟩) h1).trans (hc i hi).1, (World.cell?_of_block (a := ⟨b, off + i * 2 + 1, none⟩) h1).trans (hc i hi).2⟩⟩
  have h2 : w.heap[b]? = some (w.heap[b]'hb) := Array.getElem?_eq_getElem hb
  rw [← h1] at h2
  exact (Array.getElem?_eq_some_iff.1 h2).1
theorem backward_any (A : Option Addr) (m c : Nat) (w : World) :
    Calls Tryd.prog 29 #[.slice A m c] w fun e w' => e = .returned (.func (.func 41) #[] #[.pointer (some ⟨w.heap.size, 0, none⟩)]) ∧ w' = w.alloc (.cells #[.slice A m c] 22) := by
  go_enter Tryd.func29, Tryd.ntmps29
  go_wp2
  go_ret
  exact ⟨rfl, rfl⟩
def encB (e : List (Int × Int)) (i : Nat) : Array Value := #[.int .i64 (i : Int), .agg #[.int .i64 (e.getD i (0, 0)).1, .int .i64 (e.getD i (0, 0)).2]]
/-- The blocks that the iterator reads. -/
def KB (A : Option Addr) (Bp : Nat) (q : Nat) : Prop := (∃ a, A = some a ∧ a.block = q) ∨ q = Bp
set_option maxRecDepth 100000 in
set_option maxHeartbeats 2000000 in
theorem back1_in (l Bp c m : Nat) (A : Option Addr) (e : List (Int × Int)) (hm : m = e.length) (hm9 : m ≤ 1000) (J Jx : List Nat → World → Prop) (W : World) (hA : PA W A e)
    (hJ : AbidesFrom W.heap.size J)
    (hY : ∀ pre i V, i < m → J pre V → pre.length < m → YieldAt Fence.wide 3 Tryd.prog l (encB e i) V fun r V' =>
      (r = .returned (.bool true) ∧ J (pre ++ [i]) V' ∧ KS (KB A Bp) V V') ∨ (r = .returned (.bool false) ∧ Jx (pre ++ [i]) V'))
    (hBp : W.heap[Bp]? = some (.cells #[.slice A m c] 22 (0, 0))) (h0 : J [] W) :
    CallsIn Fence.wide 4 Tryd.prog 41 #[.func (.yield l) #[] #[], .pointer (some ⟨Bp, 0, none⟩)] W fun r W' => (∃ v, r = .returned v) ∧
      ((∃ ys, ys = dn 0 m ∧ J ys W') ∨ (∃ pre, Jx pre W')) := by
  have HA := Lib.hid hA
  have c0 := (cell_of_box_l hBp).1
  have HB0 := Lib.hid hBp
  have HJ := Lib.hid hJ
  have HM := Lib.hid hm
  clear hA hJ hBp hm
  refine callsIn_of_wp Tryd.func41 rfl trivial ?_ rfl
  simp only [Tryd.ntmps41, List.size_toArray, List.length_cons, List.length_nil, Nat.reduceAdd, Nat.reduceSub, Array.replicate_succ, Array.replicate_zero, List.push_toArray, List.append_toArray, List.nil_append, List.cons_append]
  gi_wp2
  gi_loopw [3] (fun i wr => ∃ r : Nat, r ≤ m ∧ i = .int .i64 ((r : Int) - 1) ∧ J (dn r (m - r)) wr ∧ Hid (PA wr A e) ∧ Hid (wr.heap[Bp]? = some (.cells #[.slice A m c] 22 (0, 0)))) (fun i _ => (intOf i + 1).toNat)
  case atStart => exact ⟨m, Nat.le_refl _, rfl, by rw [Nat.sub_self]; exact h0, HA, HB0⟩
  case round =>
    obtain ⟨r, hr, rfl, hJ1, HW, HB⟩ := hrel
    rcases r with _ | r
    · have e0 : ((0 : Nat) : Int) - 1 = -1 := rfl
      rw [e0]
      gi_wp2
      go_end0
      exact ⟨⟨_, rfl⟩, .inl ⟨_, rfl, by rw [Nat.sub_zero] at hJ1; exact hJ1⟩⟩
    · have hrl : r < e.length := by rw [← HM.out]; omega
      obtain ⟨b, off, rfl, hb, hc⟩ := HW.out (by omega)
      obtain ⟨d1, d2⟩ := hc r hrl
      have e1 : ((r + 1 : Nat) : Int) - 1 = (r : Int) := by omega
      rw [e1]
      have c3 := (cell_of_box_l HB.out).1
      have HLEN : (dn (r + 1) (m - (r + 1))).length < m := by
        have : ∀ b s, (dn b s).length = s := fun b s => by
          induction s with
          | zero => rfl
          | succ s ih => rw [dn, List.length_cons, ih]
        rw [this]
        omega
      have HNX : Hid (dn (r + 1) (m - (r + 1)) ++ [r] = dn r (m - r)) := Lib.hid (by
        rw [← dn_low, show m - (r + 1) + 1 = m - r by omega])
      obtain ⟨fn, tmps, assign, body, hy, hRR⟩ := hY _ r wr (by omega) hJ1 HLEN
      clear hc HLEN
      unfold encB at hy
      generalize (e.getD r (0, 0)).1 = x at d1 hy
      generalize (e.getD r (0, 0)).2 = y at d2 hy
      gi_wp2
      refine hRR.mono ?_
      rintro q W3 (⟨rfl, hJ3, hk3⟩ | ⟨rfl, hJx3⟩)
      · gi_wp2
        go_roundw
        case rel => exact ⟨r, by omega, by go_num, by rw [← HNX.out]; exact hJ3, Lib.hid (PA.stay HW.out (fun a ha => hk3 a.block (.inl ⟨a, ha, rfl⟩))), Lib.hid ((hk3 Bp (.inr rfl)).trans HB.out)⟩
        case measure => simp [intOf]
      · gi_wp2
        refine bodyPost_ret (results_none rfl _ _ _) rfl ?_
        exact ⟨⟨_, rfl⟩, .inr ⟨_, hJx3⟩⟩
/-- A place of m. -/
structure Dn (m : Nat) where
  i : Nat
  lt : i < m
def encD (e : List (Int × Int)) {m : Nat} (x : Dn m) : Array Value := encB e x.i
theorem back_stops (w : World) (Bp c m : Nat) (A : Option Addr) (e : List (Int × Int)) (hm : m = e.length) (hm9 : m ≤ 1000) (hA : PA w A e)
    (hBp : w.heap[Bp]? = some (.cells #[.slice A m c] 22 (0, 0))) :
    SeqStopsK Fence.wide 4 Tryd.prog 41 #[.pointer (some ⟨Bp, 0, none⟩)] (fun x : Dn m => #[.int .i64 (x.i : Int), .agg #[.int .i64 (e.getD x.i (0, 0)).1, .int .i64 (e.getD x.i (0, 0)).2]]) (KS (KB A Bp)) (fun ys => ys.map Dn.i = dn 0 m) (fun _ => True) m w := fun l J Jx W hW hJ _ hY h0 => by
  refine CallsIn.mono (back1_in l Bp c m A e hm hm9 (fun ys V => ∃ zs : List (Dn m), zs.map Dn.i = ys ∧ J zs V) (fun ys V => ∃ zs : List (Dn m), zs.map Dn.i = ys ∧ Jx zs V) W (hA.below hW)
    (fun ys V V' row ⟨zs, e, h⟩ hg hr => ⟨zs, e, hJ zs V V' row h hg hr⟩) (fun pre i V hi hJ1 hlen => ?_) ((hW.block Bp (Array.getElem?_eq_some_iff.1 hBp).1).trans hBp) ⟨[], rfl, h0⟩) ?_
  · obtain ⟨zs, rfl, hz1⟩ := hJ1
    obtain ⟨fn, tmps, assign, body, hy, hRR⟩ := hY zs ⟨i, hi⟩ V hz1 (by rw [List.length_map] at hlen; exact hlen)
    refine ⟨fn, tmps, assign, body, hy, hRR.mono ?_⟩
    rintro r V2 (⟨he, h1, h2⟩ | ⟨he, h1⟩)
    · exact .inl ⟨he, ⟨_, by simp, h1⟩, h2⟩
    · exact .inr ⟨he, _, by simp, h1⟩
  · rintro r V ⟨hv, ⟨ys, rfl, zs, e1, h1⟩ | ⟨pre, zs, rfl, h1⟩⟩
    · exact ⟨hv, .inl ⟨zs, e1, h1⟩⟩
    · exact ⟨hv, .inr ⟨zs, trivial, h1⟩⟩
/-- What the writer keeps stays while a loop's records turn. -/
theorem WrW.kept {F : Fx} {W W' : World} {S : St} {vw vo : Value} (h : WrW F W S vw vo) {row : Option Nat} (hg : W.grownBy W' row) (hr : ∀ r, row = some r → ∃ o : Obj, W.heap[r]? = some o ∧ o.isCells = false) : WrW F W' S vw vo := by
  have hb : ∀ k, (∃ i v, W.cell? ⟨k, i, none⟩ = some v) → W'.heap[k]? = W.heap[k]? := fun k ⟨i, v, hv⟩ => by
    obtain ⟨o, ho, hc⟩ := cells_of_cell hv
    exact grownBy_keeps_cells hg hr ho hc
  have hown : ∀ {α : Type} {enc : α → List Value} {size : Nat} {e : TypeId} {v : Value} {l : List α}, OR enc size F.B0 e W v l → OR enc size F.B0 e W' v l := fun {α enc size e v l} ho => by
    refine World.ownsRow.kept ho hg ?_
    rcases hv : v.ownBlock with _ | b
    · exact .inl rfl
    · refine .inr (fun e2 => ?_)
      obtain ⟨o, ho2, hc⟩ := hr b e2.symm
      obtain ⟨c1, f1, k1⟩ := Lib.ownsRow_kind ho b hv
      rw [k1] at ho2
      cases ho2
      cases hc
  have hnb : W'.heap[F.nb]? = W.heap[F.nb]? := by
    obtain ⟨cs, h2, _⟩ := h.n
    exact grownBy_keeps_cells hg hr h2 rfl
  refine { h with c := h.c.block (hb _ ⟨0, _, h.c.c0⟩) hg.size, n := h.n.of_block hnb, wt := hown h.wt, wo := hown h.wo, a := fun hn => ?_, b := fun hn => ?_, fm := fun k hk => ⟨cell_kept (h.fm k hk).1 hg hr, cell_kept (h.fm k hk).2.1 hg hr, cell_kept (h.fm k hk).2.2 hg hr⟩, sz := Nat.le_trans h.sz hg.size }
  · obtain ⟨b, off, e, hlt, hc⟩ := h.a hn
    exact ⟨b, off, e, Nat.lt_of_lt_of_le hlt hg.size, fun i hi => ⟨cell_kept (hc i hi).1 hg hr, cell_kept (hc i hi).2 hg hr⟩⟩
  · obtain ⟨b, off, e, hlt, hc⟩ := h.b hn
    exact ⟨b, off, e, Nat.lt_of_lt_of_le hlt hg.size, fun i hi => cell_kept (hc i hi) hg hr⟩
/-- The law of a loop over an iterator whose body never leaves, at the wide fence; the loop's variable lies in one slot. -/
theorem range_plain {α : Type} {P : Program} {g : Operand} {p1 p2 : Tmp} {assign body : Code} {Q : Exit → Act → World → Prop} {a : Act} {w : World} (slot : Nat) (v1 v2 : α → Value)
    {gf : Nat} {lb : Array Value} (hg : a.eval g = .func (.func gf) #[] lb) (eg : ∀ args w, (callFunc gf args).run P w = .ok (.enter gf args) w)
    {Kp : World → World → Prop} {S Sp : List α → Prop} {N : Nat} (hseq : SeqStopsK Fence.wide 4 P gf lb (fun x => #[v1 x, v2 x]) Kp S Sp N w)
    (hKt : ∀ {A B C : World}, Kp A B → Kp B C → Kp A C) (hKb : ∀ (W : World) (l : Nat) (o o' : Obj), w.heap.size ≤ l → W.heap[l]? = some o → o.isCells = false → o.isWalk = false → Kp W (W.putObj l o'))
    (I : List α → World → Prop) (hI : OwnFrom w.heap.size I) (h0 : I [] w)
    (hassign : ∀ (l : Nat) (x : α) (W : World) (K : Act → World → Prop), K { tmps := ((a.tmps.setIfInBounds p1 (v1 x)).setIfInBounds p2 (v2 x)).setIfInBounds slot (v1 x), defers := [] } W →
      assign.wpIn (Fence.wide.inRound l) 3 P (Exit.then K (fun _ _ _ => False)) { tmps := (a.tmps.setIfInBounds p1 (v1 x)).setIfInBounds p2 (v2 x), defers := [] } W)
    (hbody : ∀ (l : Nat) (pre : List α) (x : α) (W : World), I pre W → pre.length < N → body.wpIn (Fence.wide.inRound l) 3 P (ownPostG w.heap.size Kp I (fun _ _ _ => False) (pre ++ [x]) W) { tmps := ((a.tmps.setIfInBounds p1 (v1 x)).setIfInBounds p2 (v2 x)).setIfInBounds slot (v1 x), defers := [] } W)
    (hdone : ∀ (D : Nat) (xs : List α) (W : World), w.heap.size ≤ D → S xs → I xs W → W.heap[D]? = some (.deferred (some [])) → Q .normal { a with defers := { target := .collected D, args := #[] } :: a.defers } W) :
    (Code.rangeFunc g #[p1, p2] assign body).wp P Q a w := by
  have hz : ∀ (u v : Value) (T : Array Value), (#[p1, p2].zip #[u, v]).foldl (fun t (p, v) => t.setIfInBounds p v) T = (T.setIfInBounds p1 u).setIfInBounds p2 v := fun u v T => by simp
  refine wpIn_wide.1 (wpIn_rangeFunc_ownG (F := Fence.wide) (n := 5) rfl (by omega) hg trivial eg hseq hKt hKb (Below.refl _ _) (fun _ => rfl) I (fun _ _ _ => False) hI (fun _ _ _ _ _ h _ _ => h) h0 (fun x => { tmps := ((a.tmps.setIfInBounds p1 (v1 x)).setIfInBounds p2 (v2 x)).setIfInBounds slot (v1 x), defers := [] }) (fun l x W K hK => ?_) hbody hdone (fun _ _ _ _ _ _ h => h.elim))
  rw [hz]
  exact hassign l x W K hK
end Go.Proofs.YtmdfiamffipbcaaDoor.nf
