/- Rows of rows of bools: appended to, cut. -/
import Derived.Test.YtophajljjnjcdaaWdRowsA
namespace Go.Proofs.Ytophajljjnjcdaa.wd
open Go.ChangeShapes Go.WideShapes Go.ChangeAt Go.RowKit Go.Deep sr lt nf

/-- A slice of bools, as it lies. -/
def encV (x : Option Addr × Nat × Nat) : List Value := [.slice x.1 x.2.1 x.2.2]
theorem encV_len (x : Option Addr × Nat × Nat) : (encV x).length = 1 := rfl
theorem encV_one (x : Option Addr × Nat × Nat) : ∀ u ∈ encV x, u.oneCell' = true := fun u hu => by
  simp [encV] at hu
  subst hu
  rfl
set_option maxHeartbeats 1000000 in
/-- append of one row of bools: the run; the row of rows keeps its block, or has a new one. -/
theorem run_append_row {w : World} (base H : Nat) (v : Value) (X : List (Option Addr × Nat × Nat)) (hown : OR encV 1 base 36 w v X) (A : Option Addr) (n c : Nat)
    (hlen : X.length ≤ 100000) (hbase : base ≤ w.heap.size) (t2 : TypeId) (hH : w.heap[H]? = some (.cells #[.slice A n c] t2)) :
    ∃ v' w', (Builtin.append_ #[34, 34] 34 #[v, .slice (some ⟨H, 0, none⟩) 1 1]).run Try.prog w = .ok v' w' ∧ OR encV 1 base 36 w' v' (X ++ [(A, n, c)]) ∧ Below base w w' ∧ w.grownBy w' v.ownBlock ∧ (v'.ownBlock = v.ownBlock ∨ v'.ownBlock = some w.heap.size) := by
  obtain ⟨i0, hi0, hz0, hz1, hz2⟩ := info_parts infoV
  obtain ⟨v', w', hr, h2, h3, _, h5⟩ := run_append_own_at (P := Try.prog) w base 34 34 36 i0 (.slice none 0 0) 1 24 Try.underlying34 hi0 hz0 hz1 hz2 rfl (by decide) v X.length _ hown ⟨H, 0, none⟩ 1 1 [.slice A n c] rfl (fun j u hu => by
      rcases j with _ | j
      · have hu : Value.slice A n c = u := by simpa using hu
        subst hu
        simp [World.cell?, hH, Addr.add]
      · simp at hu) (fun u hu => by
      simp at hu
      subst hu
      rfl) (by unfold maxLen; omega) (by omega) hbase
  refine ⟨v', w', hr, ?_, Below.grown (Below.refl _ _) h3 hbase (fun k hk => (World.ownsRow.lt hown k hk).1), h3, h5⟩
  unfold OR
  rw [List.length_append, flatR_append]
  exact h2
theorem list_append_row {w : World} {ops : Array Oper} {rest : List Oper} {o : Oper} {a : Act} {Q : Exit → Act → World → Prop} (base H : Nat) (hgd : o.guard = none) (s x : Operand)
    (ho : o.op = .call { callee := .builtin .append, args := #[s, x], argTypes := #[34, 34] }) (hty : o.type = 34) (v : Value) (X : List (Option Addr × Nat × Nat)) (hs : a.eval s = v) (hown : OR encV 1 base 36 w v X) (A : Option Addr) (n c : Nat)
    (hx : a.eval x = .slice (some ⟨H, 0, none⟩) 1 1) (hlen : X.length ≤ 100000) (hbase : base ≤ w.heap.size) (t2 : TypeId) (hH : w.heap[H]? = some (.cells #[.slice A n c] t2))
    (h : ∀ v' w', OR encV 1 base 36 w' v' (X ++ [(A, n, c)]) → Below base w w' → w.grownBy w' v.ownBlock → (v'.ownBlock = v.ownBlock ∨ v'.ownBlock = some w.heap.size) → wpList Try.prog ops Q rest (a.put o.dst v') w') :
    wpList Try.prog ops Q (o :: rest) a w := by
  obtain ⟨v', w', hr, h2, h3, h4, h5⟩ := run_append_row base H v X hown A n c hlen hbase t2 hH
  exact Lib.wpList_append_run w hgd s x 34 34 ho v _ hs hx v' w' (by rw [hty]; exact hr) (h v' w' h2 h3 h4 h5)
theorem BL.grown {w w' : World} {A : Option Addr} {l : List Bool} {row : Option Nat} (h : BL w A l) (hg : w.grownBy w' row) (ha : ∀ a, A = some a → row ≠ some a.block) : BL w' A l := fun hn => by
  obtain ⟨b, off, e, hl, hc⟩ := h hn
  subst e
  have hb := hg.block b hl (fun e => ha _ rfl e.symm)
  exact ⟨b, off, rfl, Nat.lt_of_lt_of_le hl hg.size, fun i hi => (World.cell?_of_block (a := ⟨b, off + i, none⟩) hb).trans (hc i hi)⟩
/-- A row of rows, each of n bools; q: a block that none of them lies in. -/
structure TR (base : Nat) (w : World) (v : Value) (n : Nat) (X : List (Option Addr × Nat × Nat)) (l : List (List Bool)) (q : Option Nat) : Prop where
  len : X.length = l.length
  own : OR encV 1 base 36 w v X
  row : ∀ j, j < l.length → ∃ A' c', X.getD j default = (A', n, c') ∧ BL w A' (l.getD j []) ∧ ∀ a, A' = some a → v.ownBlock ≠ some a.block ∧ q ≠ some a.block ∧ a.block < w.heap.size
  apart : ∀ b, v.ownBlock = some b → q ≠ some b
theorem TR.nil (base : Nat) (w : World) (n : Nat) (q : Option Nat) : TR base w (.slice none 0 0) n [] [] q where
  len := rfl
  own := World.ownsRow_nil _ _ _ _
  row := fun j h => absurd h (by simp)
  apart := fun b h => by cases h
theorem TR.below {base : Nat} {w w' : World} {v : Value} {n : Nat} {X : List (Option Addr × Nat × Nat)} {l : List (List Bool)} {q : Option Nat} (h : TR base w v n X l q) (hb : Below w.heap.size w w') : TR base w' v n X l q where
  len := h.len
  own := OR.below h.own hb
  row := fun j hj => by
    obtain ⟨A', c', h1, h2, h3⟩ := h.row j hj
    exact ⟨A', c', h1, h2.below hb, fun a ha => ⟨(h3 a ha).1, (h3 a ha).2.1, Nat.lt_of_lt_of_le (h3 a ha).2.2 hb.size⟩⟩
  apart := h.apart
theorem TR.form {base : Nat} {w : World} {v : Value} {n : Nat} {X : List (Option Addr × Nat × Nat)} {l : List (List Bool)} {q : Option Nat} (h : TR base w v n X l q) : ∃ OA oc, v = .slice OA l.length oc ∧ l.length ≤ oc ∧ oc ≤ maxLen ∧ (0 < l.length → ∃ b off, OA = some ⟨b, off, none⟩ ∧ b < w.heap.size ∧ ∀ j, j < l.length → ∃ A' c', w.cell? ⟨b, off + j, none⟩ = some (.slice A' n c') ∧ BL w A' (l.getD j [])) := by
  have hf : ∃ OA oc, v = .slice OA l.length oc ∧ l.length ≤ oc ∧ oc ≤ maxLen := by
    rcases h.own.2 with ⟨rfl, h0⟩ | ⟨g, cap, cur, rfl, _, _, h3, h4, _⟩
    · have hl : l.length = 0 := by rw [← h.len]; exact h0
      exact ⟨none, 0, by rw [hl], by omega, Nat.zero_le _⟩
    · exact ⟨_, cap, by rw [h.len], by rw [← h.len]; exact h3, h4⟩
  obtain ⟨OA, oc, hv, k1, k2⟩ := hf
  refine ⟨OA, oc, hv, k1, k2, fun h0 => ?_⟩
  obtain ⟨OA2, oc2, hv2, hrs⟩ := OR.rs encV_len h.own
  rw [hv] at hv2
  injection hv2 with e1 _ _
  subst e1
  obtain ⟨b, off, e, hb, hc⟩ := hrs (by rw [h.len]; exact h0)
  refine ⟨b, off, e, hb, fun j hj => ?_⟩
  obtain ⟨A', c', g1, g2, _⟩ := h.row j hj
  have q := hc j (by rw [h.len]; exact hj) 0 (by decide)
  rw [Nat.mul_one, Nat.add_zero, g1] at q
  exact ⟨A', c', q, g2⟩
/-- Another row of rows is appended to. -/
theorem TR.grown {base : Nat} {w w' : World} {v : Value} {n : Nat} {X : List (Option Addr × Nat × Nat)} {l : List (List Bool)} {q q' : Option Nat} (h : TR base w v n X l q) (hg : w.grownBy w' q) (hq : q' = q ∨ q' = some w.heap.size) : TR base w' v n X l q' := by
  have hv : v.ownBlock = none ∨ v.ownBlock ≠ q := by
    rcases hb : v.ownBlock with _ | b
    · exact .inl rfl
    · exact .inr (fun e => h.apart b hb e.symm)
  refine ⟨h.len, World.ownsRow.kept h.own hg hv, fun j hj => ?_, fun b hb => ?_⟩
  · obtain ⟨A', c', h1, h2, h3⟩ := h.row j hj
    refine ⟨A', c', h1, h2.grown hg (fun a ha => (h3 a ha).2.1), fun a ha => ⟨(h3 a ha).1, ?_, Nat.lt_of_lt_of_le (h3 a ha).2.2 hg.size⟩⟩
    rcases hq with hq | hq
    · rw [hq]; exact (h3 a ha).2.1
    · rw [hq]
      have := (h3 a ha).2.2
      intro e
      injection e with e
      omega
  · rcases hq with hq | hq
    · rw [hq]; exact h.apart b hb
    · rw [hq]
      have := (World.ownsRow.lt h.own b hb).2
      intro e
      injection e with e
      omega
theorem TR.take {base : Nat} {w : World} {A : Option Addr} {m c : Nat} {n : Nat} {X : List (Option Addr × Nat × Nat)} {l : List (List Bool)} {q : Option Nat} (h : TR base w (.slice A m c) n X l q) (k : Nat) (hk : k ≤ l.length) : TR base w (.slice A k c) n (X.take k) (l.take k) q := by
  have hlx := h.len
  refine ⟨by rw [List.length_take, List.length_take, h.len], ?_, fun j hj => ?_, fun b hb => h.apart b (by cases A <;> exact hb)⟩
  · have hl : (X.take k).length = k := by rw [List.length_take]; omega
    have hown := h.own
    unfold OR at hown ⊢
    rw [hl]
    refine ⟨by rw [flatR_length encV_len, hl], ?_⟩
    rcases hown.2 with ⟨e2, h0⟩ | ⟨g, cap, cur, e2, hb, hg, h3, h4, h5, h6⟩
    · injection e2 with e3 e4 e5
      subst e3
      subst e5
      exact .inl ⟨by rw [show k = 0 by omega], by omega⟩
    · injection e2 with e3 e4 e5
      subst e3
      subst e5
      refine .inr ⟨g, c, cur, rfl, hb, hg, by omega, h4, h5, ?_⟩
      have e : X = X.take k ++ X.drop k := (List.take_append_drop k X).symm
      have h7 : cur.toList.take (k * 1) = (flatR encV X).take (k * 1) := by rw [← h6, List.take_take]; congr 1; omega
      rw [h7]
      conv => lhs; rw [e, flatR_append]
      rw [List.take_left']
      rw [flatR_length encV_len, hl]
  · rw [List.length_take] at hj
    obtain ⟨A', c', h1, h2, h3⟩ := h.row j (by omega)
    refine ⟨A', c', ?_, ?_, fun a ha => ⟨fun e => (h3 a ha).1 (by cases A <;> exact e), (h3 a ha).2⟩⟩
    · simp only [List.getD] at h1 ⊢
      rw [List.getElem?_take, if_pos (by omega)]
      exact h1
    · simp only [List.getD] at h2 ⊢
      rw [List.getElem?_take, if_pos (by omega)]
      exact h2
theorem TR.snoc {base : Nat} {w w7 : World} {v v7 : Value} {n c : Nat} {X : List (Option Addr × Nat × Nat)} {l : List (List Bool)} {q : Option Nat} {A : Option Addr} {L : List Bool} (h : TR base w v n X l q) (h2 : OR encV 1 base 36 w7 v7 (X ++ [(A, n, c)]))
    (hg : w.grownBy w7 v.ownBlock) (h5 : v7.ownBlock = v.ownBlock ∨ v7.ownBlock = some w.heap.size) (hL : BL w A L) (hA : ∀ a, A = some a → v.ownBlock ≠ some a.block ∧ q ≠ some a.block ∧ a.block < w.heap.size) (hq : ∀ b, q = some b → b < w.heap.size) : TR base w7 v7 n (X ++ [(A, n, c)]) (l ++ [L]) q := by
  have key : ∀ A' L', BL w A' L' → (∀ a, A' = some a → v.ownBlock ≠ some a.block ∧ q ≠ some a.block ∧ a.block < w.heap.size) → BL w7 A' L' ∧ ∀ a, A' = some a → v7.ownBlock ≠ some a.block ∧ q ≠ some a.block ∧ a.block < w7.heap.size := fun A' L' g1 g2 =>
    ⟨g1.grown hg (fun a ha => (g2 a ha).1), fun a ha => ⟨by
      rcases h5 with h5 | h5
      · rw [h5]; exact (g2 a ha).1
      · rw [h5]
        have := (g2 a ha).2.2
        intro e
        injection e with e
        omega, (g2 a ha).2.1, Nat.lt_of_lt_of_le (g2 a ha).2.2 hg.size⟩⟩
  refine ⟨by rw [List.length_append, List.length_append, h.len]; rfl, h2, fun j hj => ?_, fun b hb => ?_⟩
  · rw [List.length_append] at hj
    have hj : j < l.length + 1 := hj
    by_cases hji : j < l.length
    · obtain ⟨A', c', g1, g2, g3⟩ := h.row j hji
      obtain ⟨k1, k2⟩ := key A' _ g2 g3
      refine ⟨A', c', ?_, ?_, k2⟩
      · simp only [List.getD] at g1 ⊢
        rw [List.getElem?_append_left (by rw [h.len]; exact hji)]
        exact g1
      · simp only [List.getD] at k1 ⊢
        rw [List.getElem?_append_left hji]
        exact k1
    · obtain rfl : j = l.length := by omega
      obtain ⟨k1, k2⟩ := key A L hL hA
      refine ⟨A, c, ?_, ?_, k2⟩
      · simp only [List.getD]
        rw [List.getElem?_append_right (by rw [h.len]; exact Nat.le_refl _), h.len, Nat.sub_self]
        rfl
      · simp only [List.getD]
        rw [List.getElem?_append_right (Nat.le_refl _), Nat.sub_self]
        exact k1
  · rcases h5 with h5 | h5
    · exact h.apart b (by rw [← h5]; exact hb)
    · intro e
      rw [h5] at hb
      injection hb with hb
      have := hq b e
      omega
/-- Two rows of rows. -/
structure TT (base : Nat) (w : World) (sv ov : Value) (n : Nat) (XS XO : List (Option Addr × Nat × Nat)) (LS LO : List (List Bool)) : Prop where
  s : TR base w sv n XS LS ov.ownBlock
  o : TR base w ov n XO LO sv.ownBlock
theorem TT.below {base : Nat} {w w' : World} {sv ov : Value} {n : Nat} {XS XO : List (Option Addr × Nat × Nat)} {LS LO : List (List Bool)} (h : TT base w sv ov n XS XO LS LO) (hb : Below w.heap.size w w') : TT base w' sv ov n XS XO LS LO := ⟨h.s.below hb, h.o.below hb⟩
theorem own_slice (A : Option Addr) (m c k d : Nat) : (Value.slice A m c).ownBlock = (Value.slice A k d).ownBlock := by cases A <;> rfl
theorem TT.take {base : Nat} {w : World} {A : Option Addr} {m c : Nat} {ov : Value} {n : Nat} {XS XO : List (Option Addr × Nat × Nat)} {LS LO : List (List Bool)} (h : TT base w (.slice A m c) ov n XS XO LS LO) (k : Nat) (hk : k ≤ LS.length) : TT base w (.slice A k c) ov n (XS.take k) XO (LS.take k) LO :=
  ⟨h.s.take k hk, by rw [own_slice A k c m c]; exact h.o⟩
/-- Onto the first. -/
theorem TT.push {base : Nat} {w w7 : World} {sv v7 ov : Value} {n c : Nat} {XS XO : List (Option Addr × Nat × Nat)} {LS LO : List (List Bool)} {A : Option Addr} {L : List Bool} (h : TT base w sv ov n XS XO LS LO) (h2 : OR encV 1 base 36 w7 v7 (XS ++ [(A, n, c)]))
    (hg : w.grownBy w7 sv.ownBlock) (h5 : v7.ownBlock = sv.ownBlock ∨ v7.ownBlock = some w.heap.size) (hL : BL w A L) (hA : ∀ a, A = some a → sv.ownBlock ≠ some a.block ∧ ov.ownBlock ≠ some a.block ∧ a.block < w.heap.size) :
    TT base w7 v7 ov n (XS ++ [(A, n, c)]) XO (LS ++ [L]) LO ∧ BL w7 A L ∧ ∀ a, A = some a → v7.ownBlock ≠ some a.block ∧ ov.ownBlock ≠ some a.block ∧ a.block < w7.heap.size := by
  refine ⟨⟨h.s.snoc h2 hg h5 hL hA (fun b hb => (World.ownsRow.lt h.o.own b hb).2), h.o.grown hg h5⟩, hL.grown hg (fun a ha => (hA a ha).1), fun a ha => ⟨?_, (hA a ha).2.1, Nat.lt_of_lt_of_le (hA a ha).2.2 hg.size⟩⟩
  rcases h5 with h5 | h5
  · rw [h5]; exact (hA a ha).1
  · rw [h5]
    have := (hA a ha).2.2
    intro e
    injection e with e
    omega
/-- Onto the second. -/
theorem TT.lay {base : Nat} {w w7 : World} {sv v7 ov : Value} {n c : Nat} {XS XO : List (Option Addr × Nat × Nat)} {LS LO : List (List Bool)} {A : Option Addr} {L : List Bool} (h : TT base w sv ov n XS XO LS LO) (h2 : OR encV 1 base 36 w7 v7 (XO ++ [(A, n, c)]))
    (hg : w.grownBy w7 ov.ownBlock) (h5 : v7.ownBlock = ov.ownBlock ∨ v7.ownBlock = some w.heap.size) (hL : BL w A L) (hA : ∀ a, A = some a → sv.ownBlock ≠ some a.block ∧ ov.ownBlock ≠ some a.block ∧ a.block < w.heap.size) :
    TT base w7 sv v7 n XS (XO ++ [(A, n, c)]) LS (LO ++ [L]) :=
  ⟨h.s.grown hg h5, h.o.snoc h2 hg h5 hL (fun a ha => ⟨(hA a ha).2.1, (hA a ha).1, (hA a ha).2.2⟩) (fun b hb => (World.ownsRow.lt h.s.own b hb).2)⟩
end Go.Proofs.Ytophajljjnjcdaa.wd
