/- A loop over an iterator that runs loops over iterators of its own: what the iterator is told of the body ('Guards'), the iterator's contract ('SeqOver'), the loop's law. Of our own making: the law on SeqStopsK does not reach such an iterator, as its premise lets only walks turn. Nothing here speaks of the program. -/
import Derived.Test.YtcoocchfadbhdaaEach
namespace Go.Proofs.Ytcoocchfadbhdaa
open Go.RowKit Go.Shelf

/-- What a body keeps: Kp holds of the world ahead of a round and of the one behind it; 'fine' are blocks that no round turns, 'ok' what goes with it. -/
structure Guards (L : Nat) (Kp : World → World → Prop) (fine : World → Nat → Prop) (ok : World → Prop) : Prop where
  others : ∀ {W W' : World}, Kp W W' → KeepsFrom L W W'
  keep : ∀ {W W' : World} {k : Nat} {o : Obj}, ok W → Kp W W' → fine W k → W.heap[k]? = some o → W'.heap[k]? = some o
  still : ∀ {W W' : World} {k : Nat}, ok W → Kp W W' → fine W k → k < W.heap.size → fine W' k
  goes : ∀ {W W' : World}, ok W → Kp W W' → ok W'
  turn : ∀ {W W' : World} {row : Option Nat}, ok W → W.grownBy W' row → (∀ r, row = some r → ∃ o : Obj, W.heap[r]? = some o ∧ o.isCells = false) → ok W' ∧ ∀ k, fine W k → fine W' k
  new : ∀ {W : World} {k : Nat}, ok W → W.heap.size ≤ k → fine W k

theorem room_of_wide (k : Nat) : Fence.wide.room k := fun d h => by cases h
theorem round_any {m m' : Nat} {P : Program} {l : Nat} {f : FuncId} {tmps : Array Value} {assign body : Code} {w : World} {R : Ending → World → Prop}
    (h : RoundIn Fence.wide m P l f tmps assign body w R) : RoundIn Fence.wide m' P l f tmps assign body w R := ⟨h.1, fun c cs _ => h.2 c cs (room_of_wide _)⟩

/-- How a round may end. -/
def RoundEnds {α : Type} (Kp : World → World → Prop) (J Jx : List α → World → Prop) (pre : List α) (x : α) (W : World) (e : Ending) (W' : World) : Prop :=
  (e = .returned (.bool true) ∧ J (pre ++ [x]) W' ∧ Kp W W') ∨ (e = .returned (.bool false) ∧ Jx (pre ++ [x]) W' ∧ Kp W W')

/-- An iterator's contract, for every body. -/
def SeqOver {α : Type} (P : Program) (gf : Nat) (lb : Array Value) (encs : α → Array Value) (need : List Nat) (S Sp : List α → Prop) (N : Nat) (w : World) : Prop :=
  ∀ (n l : Nat) (Kp : World → World → Prop) (fine : World → Nat → Prop) (ok : World → Prop) (J Jx : List α → World → Prop) (W : World), Guards W.heap.size Kp fine ok → Below w.heap.size w W → ok W → (∀ k ∈ need, fine W k) →
    OwnFrom W.heap.size J → OwnFrom W.heap.size Jx → (∀ pre x W1, J pre W1 → pre.length < N → ∀ m, YieldAt Fence.wide m P l (encs x) W1 (RoundEnds Kp J Jx pre x W1)) → J [] W →
    CallsIn Fence.wide n P gf (#[.func (.yield l) #[] #[]] ++ lb) W fun e W' => (∃ v, e = .returned v) ∧ ((∃ xs, S xs ∧ J xs W') ∨ (∃ pre, Sp pre ∧ Jx pre W'))

/-- A block beyond those that are turned keeps what it holds. -/
theorem block_kept {W W' : World} {row : Option Nat} {B k : Nat} {o : Obj} (hg : W.grownBy W' row) (hr : ∀ r, row = some r → B ≤ r) (hk : k < B) (h : W.heap[k]? = some o) : W'.heap[k]? = some o :=
  (hg.block k (Array.getElem?_eq_some_iff.1 h).1 (fun e => by have := hr k e.symm; omega)).trans h

/-- How a body may be left. -/
def overPost {α : Type} (B : Nat) (Kp : World → World → Prop) (I : List α → World → Prop) (Ix : Code → List α → World → Prop) (xs : List α) (W : World) : Exit → Act → World → Prop
  | .normal, _, W' => KeepsFrom B W W' ∧ Kp W W' ∧ I xs W'
  | .ret, _, W' => KeepsFrom B W W' ∧ Kp W W' ∧ Ix .ret xs W'
  | .exit id, _, W' => KeepsFrom B W W' ∧ Kp W W' ∧ Ix (.exit id) xs W'
  | .goto t, _, W' => KeepsFrom B W W' ∧ Kp W W' ∧ Ix (.goto t) xs W'
  | .panic _, _, _ => False
  | .outgrown, _, _ => False

/-- The law of the loop. -/
theorem wpIn_over {α : Type} {P : Program} {n : Nat} {g : Operand} {ps : Array Tmp} {assign body : Code} {Q : Exit → Act → World → Prop} {a : Act} {w : World} {gf : Nat} {lb : Array Value}
    (hg : a.eval g = .func (.func gf) #[] lb) (eg : ∀ args w, (callFunc gf args).run P w = .ok (.enter gf args) w)
    {encs : α → Array Value} {need : List Nat} {S Sp : List α → Prop} {N : Nat} (hseq : SeqOver P gf lb encs need S Sp N w) (hps : ∀ x, (encs x).size = ps.size)
    (Kp : World → World → Prop) (fine : World → Nat → Prop) (ok : World → Prop) (hG : Guards (w.heap.size + 2) Kp fine ok) (hKt : ∀ {A B C : World}, Kp A B → Kp B C → Kp A C)
    (hKb : ∀ (W : World) (o o' : Obj), W.heap[w.heap.size + 1]? = some o → o.isCells = false → Kp W (W.putObj (w.heap.size + 1) o')) (ok0 : ∀ V : World, Below w.heap.size w V → V.heap.size = w.heap.size + 2 → ok V ∧ ∀ k ∈ need, fine V k)
    (I : List α → World → Prop) (Ix : Code → List α → World → Prop) (hI : OwnFrom w.heap.size I) (hIx : ∀ c, OwnFrom w.heap.size (Ix c)) (h0 : I [] w) (Ax : α → Act → Prop)
    (hassign : ∀ (l : Nat) (x : α) (W : World) (K : Act → World → Prop), (∀ a', Ax x a' → K a' W) →
      assign.wpIn (Fence.wide.inRound l) n P (Exit.then K (fun _ _ _ => False)) { tmps := (ps.zip (encs x)).foldl (fun t (p, v) => t.setIfInBounds p v) a.tmps, defers := [] } W)
    (hbody : ∀ (l : Nat) (pre : List α) (x : α) (a' : Act) (W : World), I pre W → Ax x a' → pre.length < N → body.wpIn (Fence.wide.inRound l) n P (overPost w.heap.size Kp I Ix (pre ++ [x]) W) a' W)
    (hdone : ∀ (D : Nat) (xs : List α) (W : World), w.heap.size ≤ D → S xs → I xs W → W.heap[D]? = some (.deferred (some [])) → Q .normal { a with defers := { target := .collected D, args := #[] } :: a.defers } W)
    (hstop : ∀ (D : Nat) (c : Code) (pre : List α) (W : World), w.heap.size ≤ D → Sp pre → Ix c pre W → W.heap[D]? = some (.deferred (some [])) → c.wpIn Fence.wide n P Q { a with defers := { target := .collected D, args := #[] } :: a.defers } W) :
    (Code.rangeFunc g ps assign body).wpIn Fence.wide n P Q a w := by
  refine wpIn_rangeFunc fun fn hfn => ?_
  obtain ⟨rec, hrec⟩ : ∃ rec : LoopState → Option Code → Loop, ∀ st pe, rec st pe = { state := st, pending := pe, fn, tmps := a.tmps, params := ps, assign, body, defers := w.heap.size } := ⟨_, fun _ _ => rfl⟩
  have hL : ((w.alloc (.deferred (some []))).alloc (.loop (rec .ready none))).heap[w.heap.size + 1]? = some (.loop (rec .ready none)) := by
    have := World.alloc_heap_new (w.alloc (.deferred (some []))) (.loop (rec .ready none))
    rwa [World.size_alloc] at this
  have hD : ((w.alloc (.deferred (some []))).alloc (.loop (rec .ready none))).heap[w.heap.size]? = some (.deferred (some [])) := (Below.heap_alloc _ _ _ (by simp)).trans (World.alloc_heap_new w _)
  have hI1 : I [] ((w.alloc (.deferred (some []))).alloc (.loop (rec .ready none))) := hI.alloc _ (hI.alloc _ h0)
  have hb1 : Below w.heap.size w ((w.alloc (.deferred (some []))).alloc (.loop (rec .ready none))) := ((Below.refl _ w).alloc (Nat.le_refl _) _).alloc (by simp) _
  have hz1 : ((w.alloc (.deferred (some []))).alloc (.loop (rec .ready none))).heap.size = w.heap.size + 2 := by simp
  have hok := ok0 _ hb1 hz1
  refine ⟨w.heap.size + 1, [{ target := .collected w.heap.size, args := #[] }], (w.alloc (.deferred (some []))).alloc (.loop (rec .ready none)), { target := .fn (.func gf) lb, args := #[.func (.yield (w.heap.size + 1)) #[] #[]] }, (w.alloc (.deferred (some []))).alloc (.loop (rec .ready none)), gf,
    #[.func (.yield (w.heap.size + 1)) #[] #[]] ++ lb, (w.alloc (.deferred (some []))).alloc (.loop (rec .ready none)), ?_, ?_, ?_, ?_, fun h => (by cases h), ?_⟩
  · rw [hrec]; exact run_enterLoop_outer _ _ _ _ _
  · simp only [resolve, hg]
    simp [go_sem]
  · exact fun _ _ => trivial
  · simp [invoke, go_sem, eg]
  generalize (w.alloc (.deferred (some []))).alloc (.loop (rec .ready none)) = W1 at *
  have inv : ∀ {A B : World} {row : Option Nat}, A.grownBy B row → (∀ r, row = some r → W1.heap.size ≤ r ∧ ∃ o : Obj, A.heap[r]? = some o ∧ o.isCells = false) → (∀ r, row = some r → w.heap.size + 2 ≤ r) ∧ (∀ r, row = some r → w.heap.size ≤ r ∧ ∃ o : Obj, A.heap[r]? = some o ∧ o.isCells = false) := fun _ hr =>
    ⟨fun r e => by have := (hr r e).1; omega, fun r e => ⟨by have := (hr r e).1; omega, (hr r e).2⟩⟩
  refine (hseq _ (w.heap.size + 1) Kp fine ok
    (fun pre W => I pre W ∧ W.heap[w.heap.size + 1]? = some (.loop (rec .ready none)) ∧ W.heap[w.heap.size]? = some (.deferred (some [])))
    (fun pre W => ∃ c, Ix c pre W ∧ W.heap[w.heap.size + 1]? = some (.loop (rec .done (some c))) ∧ W.heap[w.heap.size]? = some (.deferred (some [])))
    W1 (hz1 ▸ hG) hb1 hok.1 hok.2 ?_ ?_ ?_ ⟨hI1, hL, hD⟩).mono ?_
  · rintro s A B row ⟨h1, h2, h3⟩ hgr hr
    obtain ⟨r1, r2⟩ := inv hgr hr
    exact ⟨hI s A B row h1 hgr r2, block_kept hgr r1 (by omega) h2, block_kept hgr r1 (by omega) h3⟩
  · rintro s A B row ⟨c, h1, h2, h3⟩ hgr hr
    obtain ⟨r1, r2⟩ := inv hgr hr
    exact ⟨c, hIx c s A B row h1 hgr r2, block_kept hgr r1 (by omega) h2, block_kept hgr r1 (by omega) h3⟩
  · rintro pre x W ⟨hi, hl, hk⟩ hlen m
    have hy := run_yield (P := P) (args := encs x) hl (by rw [hrec]; exact hps x)
    rw [hrec] at hy
    refine ⟨fn, _, assign, body, hy, round_any (roundIn_of_wpIn (n := n) hfn (hassign _ x W _ fun a' hax => ?_))⟩
    refine ⟨_, run_beginRound hl (by rw [hrec]), ?_⟩
    have hlt : w.heap.size + 1 < W.heap.size := (Array.getElem?_eq_some_iff.1 hl).1
    obtain ⟨busy, hbusy⟩ : ∃ b : Loop, b = { rec .ready none with state := .busy } := ⟨_, rfl⟩
    rw [← hbusy]
    have hl2 : (W.putObj (w.heap.size + 1) (.loop busy)).heap[w.heap.size + 1]? = some (.loop busy) := World.putObj_heap_same hlt
    have hk2 : (W.putObj (w.heap.size + 1) (.loop busy)).heap[w.heap.size]? = some (.deferred (some [])) := (World.putObj_heap_other (by omega)).trans hk
    have hp2 : Kp W (W.putObj (w.heap.size + 1) (.loop busy)) := hKb W _ _ hl rfl
    refine wpIn_mono (hbody _ pre x a' _ (hI.putObj _ hi (by omega) hl rfl) hax hlen) ?_
    have fin : ∀ (jump : Option Code) (W3 : World), KeepsFrom w.heap.size (W.putObj (w.heap.size + 1) (.loop busy)) W3 →
        W3.heap[w.heap.size + 1]? = some (.loop busy) ∧ (Instr.endRound (w.heap.size + 1) jump).run P W3 = .ok (.bool jump.isNone) (W3.putObj (w.heap.size + 1) (.loop (rec (if jump.isNone then .ready else .done) jump))) ∧
        (W3.putObj (w.heap.size + 1) (.loop (rec (if jump.isNone then .ready else .done) jump))).heap[w.heap.size + 1]? = some (.loop (rec (if jump.isNone then .ready else .done) jump)) ∧
        (W3.putObj (w.heap.size + 1) (.loop (rec (if jump.isNone then .ready else .done) jump))).heap[w.heap.size]? = some (.deferred (some [])) := fun jump W3 hk3 => by
      have hl3 := hk3.same _ _ (by omega) hl2 rfl
      have he := run_endRound (P := P) jump hl3
      have hsame : ({ busy with state := if jump.isNone then .ready else .done, pending := jump } : Loop) = rec (if jump.isNone then .ready else .done) jump := by rw [hbusy, hrec, hrec]
      rw [hsame] at he
      exact ⟨hl3, he, World.putObj_heap_same (Array.getElem?_eq_some_iff.1 hl3).1, (World.putObj_heap_other (by omega)).trans (hk3.same _ _ (Nat.le_refl _) hk2 rfl)⟩
    rintro e a3 W3 hp
    cases e with
    | normal =>
      obtain ⟨hk3, hkp3, hi3⟩ := hp
      obtain ⟨hl3, he, hl4, hk4⟩ := fin none W3 hk3
      exact ⟨_, _, he, .inl ⟨rfl, ⟨hI.putObj _ hi3 (by omega) hl3 rfl, hl4, hk4⟩, hKt (hKt hp2 hkp3) (hKb _ _ _ hl3 rfl)⟩⟩
    | ret =>
      obtain ⟨hk3, hkp3, hi3⟩ := hp
      obtain ⟨hl3, he, hl4, hk4⟩ := fin (some .ret) W3 hk3
      exact ⟨_, _, he, .inr ⟨rfl, ⟨.ret, (hIx _).putObj _ hi3 (by omega) hl3 rfl, hl4, hk4⟩, hKt (hKt hp2 hkp3) (hKb _ _ _ hl3 rfl)⟩⟩
    | exit id =>
      obtain ⟨hk3, hkp3, hi3⟩ := hp
      obtain ⟨hl3, he, hl4, hk4⟩ := fin (some (.exit id)) W3 hk3
      exact ⟨_, _, he, .inr ⟨rfl, ⟨.exit id, (hIx _).putObj _ hi3 (by omega) hl3 rfl, hl4, hk4⟩, hKt (hKt hp2 hkp3) (hKb _ _ _ hl3 rfl)⟩⟩
    | goto t =>
      obtain ⟨hk3, hkp3, hi3⟩ := hp
      obtain ⟨hl3, he, hl4, hk4⟩ := fin (some (.goto t)) W3 hk3
      exact ⟨_, _, he, .inr ⟨rfl, ⟨.goto t, (hIx _).putObj _ hi3 (by omega) hl3 rfl, hl4, hk4⟩, hKt (hKt hp2 hkp3) (hKb _ _ _ hl3 rfl)⟩⟩
    | panic ch => exact hp.elim
    | outgrown => exact hp.elim
  · rintro e W2 ⟨⟨v, rfl⟩, ⟨xs, hS, hi, hl, hk⟩ | ⟨pre, hSp, c, hi, hl, hk⟩⟩
    · have he := run_endLoop (P := P) hl (by rw [hrec]; simp)
      exact ⟨none, _, by rw [he]; rw [hrec], hdone _ xs _ (Nat.le_refl _) hS (hI.putObj _ hi (by omega) hl rfl) ((World.putObj_heap_other (by omega)).trans hk)⟩
    · have he := run_endLoop (P := P) hl (by rw [hrec]; simp)
      exact ⟨some c, _, by rw [he]; rw [hrec], hstop _ c pre _ (Nat.le_refl _) hSp ((hIx c).putObj _ hi (by omega) hl rfl) ((World.putObj_heap_other (by omega)).trans hk)⟩

/-- A loop's mark among the deferred calls. -/
def mark (D : Nat) : Deferred := { target := .collected D, args := #[] }
/-- A function that returns by loops' marks alone. -/
theorem leaves_marks {n : Nat} {P : Program} {fn : Func} {tmps : Array Value} {R : Ending → World → Prop} {v : Value} (Rv : World → Prop) (hres : ∀ V, (results fn tmps).run P V = .ok v V) (hR : ∀ V, Rv V → R (.returned v) V) :
    ∀ (Ds : List Nat) (V : World), Ds.Nodup → (∀ D ∈ Ds, V.heap[D]? = some (.deferred (some []))) → (∀ D ∈ Ds, ∀ V : World, V.heap[D]? = some (.deferred (some [])) → Rv V → Rv (V.putObj D (.deferred none))) → Rv V →
      LeavesInM Fence.wide n P fn tmps R (Ds.map mark) .returning V
  | [], V, _, _, _, h => ⟨v, hres V, hR V h⟩
  | D :: Ds, V, hnd, hD, ht, h => by
    have h1 := hD D (by simp)
    refine ⟨by simp, .inl ⟨D, _, rfl, run_takeDeferred h1, ?_⟩⟩
    rw [List.nodup_cons] at hnd
    refine leaves_marks Rv hres hR Ds _ hnd.2 (fun E hE => ?_) (fun E hE => ht E (by simp [hE])) (ht D (by simp) V h1 h)
    have hne : E ≠ D := fun e => hnd.1 (e ▸ hE)
    exact (World.putObj_heap_other hne).trans (hD E (by simp [hE]))
end Go.Proofs.Ytcoocchfadbhdaa
