/- Appends of rows that may hold nothing; rows of uint64s. -/
import Derived.Test.YtmdfiamffipbcaaDoorNnfPl
import Derived.Deep.Upon
namespace Go.Proofs.YtmdfiamffipbcaaDoor.nf
open Go.ChangeShapes Go.WideShapes Go.ChangeAt Go.RowKit Go.Deep sr lt

theorem or_le {α : Type} {enc : α → List Value} {size base : Nat} {e : TypeId} {w : World} {A : Option Addr} {m c : Nat} {l : List α} (h : OR enc size base e w (.slice A m c) l) : m = l.length ∧ l.length ≤ c := by
  rcases h.2 with ⟨e2, h0⟩ | ⟨g, cap, cur, e2, _, _, h3, _⟩
  · injection e2 with e1 e3 e4
    omega
  · injection e2 with e1 e3 e4
    omega
section
variable {α : Type} {enc : α → List Value} {size : Nat} [Inhabited α]
/-- append of all of a slice that may hold nothing. -/
theorem list_append_all {t e : TypeId} {z : Value} {bytes : Nat} (hsz : ∀ x, (enc x).length = size) (hone : ∀ x, ∀ u ∈ enc x, u.oneCell' = true) (ht : Tryd.prog.underlying t = some (.slice e)) (hi : (Tryd.prog.info? e).map (fun i => (i.zero, i.size, i.bytes)) = some (some z, size, bytes)) (hzs : z.cells.size = size) (h0 : 0 < size) (hby : bytes ≤ 100)
    {w : World} {ops : Array Oper} {rest : List Oper} {o : Oper} {a : Act} {Q : Exit → Act → World → Prop} (base : Nat) (hgd : o.guard = none) (s x : Operand)
    (ho : o.op = .call { callee := .builtin .append, args := #[s, x], argTypes := #[t, t] }) (hty : o.type = t) (v : Value) (l : List α) (hs : a.eval s = v) (hown : OR enc size base e w v l) (A : Option Addr) (m c : Nat) (l2 : List α) (hx : a.eval x = .slice A m c) (hm : m = l2.length) (hA : RS enc size w A l2) (hlen : l.length + m ≤ 100000) (hbase : base ≤ w.heap.size)
    (h : ∀ v' w', OR enc size base e w' v' (l ++ l2) → Below base w w' → wpList Tryd.prog ops Q rest (a.put o.dst v') w') :
    wpList Tryd.prog ops Q (o :: rest) a w := by
  by_cases hpos : 0 < m
  · obtain ⟨v', w', hr, h2, h3⟩ := run_append_rs hsz hone ht hi hzs h0 hby (w := w) base v l hown A m c l2 hm hpos hA (by omega) hbase
    exact Lib.wpList_append_run w hgd s x t t ho v _ hs hx _ w' (by rw [hty]; exact hr) (h v' w' h2 (Below.grown (Below.refl _ _) h3 hbase (fun k hk => (World.ownsRow.lt hown k hk).1)))
  · obtain rfl : m = 0 := by omega
    have e2 : l2 = [] := List.length_eq_zero_iff.1 hm.symm
    subst e2
    obtain ⟨i0, hi0, hz0, hz1, hz2⟩ := info_parts hi
    obtain ⟨A1, c1, hv, _⟩ := OR.rs hsz hown
    have hle := or_le (hv ▸ hown)
    refine Lib.wpList_append_run w hgd s x t t ho v _ hs hx v w (by
      rw [hty, hv]
      exact run_append_nothing w t t t e i0 ht hi0 A1 l.length c1 hle.2 _ (match A with
        | some ad => Src.ofSlice w ht ad 0 c [] (by simp) (fun j u hu => by simp at hu) (fun u hu => by simp at hu)
        | none => Src.ofNil w ht c)) (h v w (by rw [List.append_nil]; exact hown) (Below.refl _ _))
end
def encU (x : Int) : List Value := [.int .u64 x]
theorem encU_len (x : Int) : (encU x).length = 1 := rfl
theorem encU_one (x : Int) : ∀ u ∈ encU x, u.oneCell' = true := fun u hu => by
  simp [encU] at hu
  subst hu
  rfl
theorem infoU : (Tryd.prog.info? 60).map (fun i => (i.zero, i.size, i.bytes)) = some (some (.int .u64 0), 1, 8) := by kernel_rfl
theorem ua_rs {w : World} {A : Option Addr} {l : List Int} (h : UA w A l) : RS encU 1 w A l := fun hn => by
  obtain ⟨b, off, e, hb, hc⟩ := h hn
  refine ⟨b, off, e, hb, fun i hi j hj => ?_⟩
  obtain rfl : j = 0 := by omega
  rw [Nat.mul_one, Nat.add_zero, hc i hi]
  rfl
theorem rs_ua {w : World} {A : Option Addr} {l : List Int} (h : RS encU 1 w A l) : UA w A l := fun hn => by
  obtain ⟨b, off, e, hb, hc⟩ := h hn
  refine ⟨b, off, e, hb, fun i hi => ?_⟩
  have := hc i hi 0 (by decide)
  rw [Nat.mul_one, Nat.add_zero] at this
  exact this
/-- A slice of bools, as it lies. -/
def encV (x : Option Addr × Nat × Nat) : List Value := [.slice x.1 x.2.1 x.2.2]
theorem encV_len (x : Option Addr × Nat × Nat) : (encV x).length = 1 := rfl
theorem encV_one (x : Option Addr × Nat × Nat) : ∀ u ∈ encV x, u.oneCell' = true := fun u hu => by
  simp [encV] at hu
  subst hu
  rfl
theorem infoV : (Tryd.prog.info? 36).map (fun i => (i.zero, i.size, i.bytes)) = some (some (.slice none 0 0), 1, 24) := by kernel_rfl
set_option maxHeartbeats 1000000 in
/-- append of one row of bools: the run; the row of rows keeps its block, or has a new one. -/
theorem run_append_row {w : World} (base H : Nat) (v : Value) (X : List (Option Addr × Nat × Nat)) (hown : OR encV 1 base 36 w v X) (A : Option Addr) (n c : Nat)
    (hlen : X.length ≤ 100000) (hbase : base ≤ w.heap.size) (t2 : TypeId) (hH : w.heap[H]? = some (.cells #[.slice A n c] t2)) :
    ∃ v' w', (Builtin.append_ #[34, 34] 34 #[v, .slice (some ⟨H, 0, none⟩) 1 1]).run Tryd.prog w = .ok v' w' ∧ OR encV 1 base 36 w' v' (X ++ [(A, n, c)]) ∧ Below base w w' ∧ w.grownBy w' v.ownBlock ∧ (v'.ownBlock = v.ownBlock ∨ v'.ownBlock = some w.heap.size) := by
  obtain ⟨i0, hi0, hz0, hz1, hz2⟩ := info_parts infoV
  obtain ⟨v', w', hr, h2, h3, _, h5⟩ := run_append_own_at (P := Tryd.prog) w base 34 34 36 i0 (.slice none 0 0) 1 24 Tryd.underlying34 hi0 hz0 hz1 hz2 rfl (by decide) v X.length _ hown ⟨H, 0, none⟩ 1 1 [.slice A n c] rfl (fun j u hu => by
      rcases j with _ | j
      · have hu : Value.slice A n c = u := by simpa using hu
        subst hu
        simp [World.cell?, hH, Addr.add]
      · simp at hu) (fun u hu => by
      simp at hu
      subst hu
      rfl) (by unfold maxLen; omega) (by omega) hbase
  refine ⟨v', w', hr, ?_, Below.grown (Below.refl _ _) h3 hbase (fun k hk => (World.ownsRow.lt hown k hk).1), h3, h5⟩
  unfold OR
  rw [List.length_append, flatR_append]
  exact h2
theorem step_append_row {w : World} {ops : Array Oper} {o : Oper} {a : Act} {K : Act → World → Prop} {Q : Exit → Act → World → Prop} {E : Prop} (base H : Nat) (hgd : o.guard = none) (s x : Operand)
    (ho : o.op = .call { callee := .builtin .append, args := #[s, x], argTypes := #[34, 34] }) (hty : o.type = 34) (v : Value) (X : List (Option Addr × Nat × Nat)) (hs : a.eval s = v) (hown : OR encV 1 base 36 w v X) (A : Option Addr) (n c : Nat)
    (hx : a.eval x = .slice (some ⟨H, 0, none⟩) 1 1) (hlen : X.length ≤ 100000) (hbase : base ≤ w.heap.size) (t2 : TypeId) (hH : w.heap[H]? = some (.cells #[.slice A n c] t2))
    (h : ∀ v' w', OR encV 1 base 36 w' v' (X ++ [(A, n, c)]) → Below base w w' → w.grownBy w' v.ownBlock → (v'.ownBlock = v.ownBlock ∨ v'.ownBlock = some w.heap.size) → K (a.put o.dst v') w') :
    if Region.wanted o (yielded ops a.tmps) = true then Oper.wp Tryd.prog o a w K Q else E := by
  obtain ⟨v', w', hr, h2, h3, h4, h5⟩ := run_append_row base H v X hown A n c hlen hbase t2 hH
  exact step_append_at hgd s x ho hty hs hx hr (h v' w' h2 h3 h4 h5)
theorem BL.grown {w w' : World} {A : Option Addr} {l : List Bool} {row : Option Nat} (h : BL w A l) (hg : w.grownBy w' row) (ha : ∀ a, A = some a → row ≠ some a.block) : BL w' A l := fun hn => by
  obtain ⟨b, off, e, hl, hc⟩ := h hn
  subst e
  have hb := hg.block b hl (fun e => ha _ rfl e.symm)
  exact ⟨b, off, rfl, Nat.lt_of_lt_of_le hl hg.size, fun i hi => (World.cell?_of_block (a := ⟨b, off + i, none⟩) hb).trans (hc i hi)⟩
/-- The rows so far, as they lie. -/
structure TrW (base : Nat) (w : World) (v : Value) (n i : Nat) (X : List (Option Addr × Nat × Nat)) (l : List (List Bool)) : Prop where
  len : X.length = i
  own : OR encV 1 base 36 w v X
  row : ∀ j, j < i → ∃ A' c', X.getD j default = (A', n, c') ∧ BL w A' (l.getD j []) ∧ ∀ a, A' = some a → v.ownBlock ≠ some a.block ∧ a.block < w.heap.size
theorem TrW.nil (base : Nat) (w : World) (n : Nat) : TrW base w (.slice none 0 0) n 0 [] [] where
  len := rfl
  own := World.ownsRow_nil _ _ _ _
  row := fun j h => absurd h (by omega)
theorem TrW.below {base : Nat} {w w' : World} {v : Value} {n i : Nat} {X : List (Option Addr × Nat × Nat)} {l : List (List Bool)} (h : TrW base w v n i X l) (hb : Below w.heap.size w w') : TrW base w' v n i X l where
  len := h.len
  own := OR.below h.own hb
  row := fun j hj => by
    obtain ⟨A', c', h1, h2, h3⟩ := h.row j hj
    exact ⟨A', c', h1, h2.below hb, fun a ha => ⟨(h3 a ha).1, Nat.lt_of_lt_of_le (h3 a ha).2 hb.size⟩⟩
theorem TrW.snoc {base : Nat} {w w7 : World} {v v7 : Value} {n i c : Nat} {X : List (Option Addr × Nat × Nat)} {l : List (List Bool)} {A : Option Addr} {L : List Bool} (h : TrW base w v n i X l) (hli : l.length = i) (h2 : OR encV 1 base 36 w7 v7 (X ++ [(A, n, c)]))
    (hg : w.grownBy w7 v.ownBlock) (h5 : v7.ownBlock = v.ownBlock ∨ v7.ownBlock = some w.heap.size) (hL : BL w A L) (hA : ∀ a, A = some a → v.ownBlock ≠ some a.block ∧ a.block < w.heap.size) : TrW base w7 v7 n (i + 1) (X ++ [(A, n, c)]) (l ++ [L]) := by
  have key : ∀ A' L', BL w A' L' → (∀ a, A' = some a → v.ownBlock ≠ some a.block ∧ a.block < w.heap.size) → BL w7 A' L' ∧ ∀ a, A' = some a → v7.ownBlock ≠ some a.block ∧ a.block < w7.heap.size := fun A' L' g1 g2 =>
    ⟨g1.grown hg (fun a ha => (g2 a ha).1), fun a ha => ⟨by
      rcases h5 with h5 | h5
      · rw [h5]; exact (g2 a ha).1
      · rw [h5]
        have := (g2 a ha).2
        intro e
        injection e with e
        omega, Nat.lt_of_lt_of_le (g2 a ha).2 hg.size⟩⟩
  refine ⟨by rw [List.length_append, h.len]; rfl, h2, fun j hj => ?_⟩
  by_cases hji : j < i
  · obtain ⟨A', c', g1, g2, g3⟩ := h.row j hji
    obtain ⟨k1, k2⟩ := key A' _ g2 g3
    refine ⟨A', c', ?_, ?_, k2⟩
    · simp only [List.getD] at g1 ⊢
      rw [List.getElem?_append_left (by rw [h.len]; exact hji)]
      exact g1
    · simp only [List.getD] at k1 ⊢
      rw [List.getElem?_append_left (by rw [hli]; exact hji)]
      exact k1
  · obtain rfl : j = i := by omega
    obtain ⟨k1, k2⟩ := key A L hL hA
    refine ⟨A, c, ?_, ?_, k2⟩
    · simp only [List.getD]
      rw [List.getElem?_append_right (by rw [h.len]; exact Nat.le_refl _), h.len, Nat.sub_self]
      rfl
    · simp only [List.getD]
      rw [List.getElem?_append_right (by rw [hli]; exact Nat.le_refl _), hli, Nat.sub_self]
      exact k1
/-- What a row's cell holds. -/
theorem TrW.cell {base : Nat} {w : World} {v : Value} {n i : Nat} {X : List (Option Addr × Nat × Nat)} {l : List (List Bool)} (h : TrW base w v n i X l) : ∃ OA oc, v = .slice OA i oc ∧ (0 < i → ∃ b off, OA = some ⟨b, off, none⟩ ∧ b < w.heap.size ∧ ∀ j, j < i → ∃ A' c', w.cell? ⟨b, off + j, none⟩ = some (.slice A' n c') ∧ BL w A' (l.getD j [])) := by
  obtain ⟨OA, oc, hv, hrs⟩ := OR.rs encV_len h.own
  rw [h.len] at hv
  refine ⟨OA, oc, hv, fun h0 => ?_⟩
  obtain ⟨b, off, e, hb, hc⟩ := hrs (by rw [h.len]; exact h0)
  refine ⟨b, off, e, hb, fun j hj => ?_⟩
  obtain ⟨A', c', g1, g2, _⟩ := h.row j hj
  have q := hc j (by rw [h.len]; exact hj) 0 (by decide)
  rw [Nat.mul_one, Nat.add_zero, g1] at q
  exact ⟨A', c', q, g2⟩
end Go.Proofs.YtmdfiamffipbcaaDoor.nf
