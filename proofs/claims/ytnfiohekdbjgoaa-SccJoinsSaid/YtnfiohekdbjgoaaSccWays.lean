/- All ways there are, by the document's three loops: no program. -/
import Derived.Test.YtnfiohekdbjgoaaSccOf
namespace Go.Proofs.Ytnfiohekdbjgoaa.sc
open Go.ChangeShapes Go.WideShapes Go.ChangeAt Go.RowKit

/-- A way of one edge or more. -/
def Wp (e : Nat → Nat → Prop) (i j : Nat) : Prop := ∃ x, e i x ∧ Wy e x j
theorem Wp.trans {e : Nat → Nat → Prop} {a b c : Nat} (h : Wp e a b) (k : Wp e b c) : Wp e a c := by
  obtain ⟨x, h1, h2⟩ := h
  obtain ⟨y, k1, k2⟩ := k
  exact ⟨x, h1, h2.trans (.on k1 k2)⟩
theorem wp_of_wy {e : Nat → Nat → Prop} {a b : Nat} (h : Wy e a b) (hne : a ≠ b) : Wp e a b := by
  cases h with
  | here => exact absurd rfl hne
  | on h1 h2 => exact ⟨_, h1, h2⟩
theorem wy_of_wp {e : Nat → Nat → Prop} {a b : Nat} (h : Wp e a b) : Wy e a b := by
  obtain ⟨x, h1, h2⟩ := h
  exact .on h1 h2
/-- One round more. -/
def wsF (m : Nat → Nat → Bool) (k a b : Nat) : Bool := m a b || (m a k && m k b)
def wnF (m : Nat → Nat → Bool) : Nat → Nat → Nat → Bool
  | 0 => m
  | k + 1 => wsF (wnF m k) k
theorem wn_sound {m : Nat → Nat → Bool} {e : Nat → Nat → Prop} (h : ∀ a b, m a b = true → Wp e a b) : ∀ k a b, wnF m k a b = true → Wp e a b
  | 0, a, b, hk => h a b hk
  | k + 1, a, b, hk => by
    unfold wnF wsF at hk
    rw [Bool.or_eq_true, Bool.and_eq_true] at hk
    rcases hk with hk | ⟨h1, h2⟩
    · exact wn_sound h k a b hk
    · exact (wn_sound h k a k h1).trans (wn_sound h k k b h2)
theorem wn_mono {m : Nat → Nat → Bool} {a b : Nat} (h : m a b = true) : ∀ k, wnF m k a b = true
  | 0 => h
  | k + 1 => by
    unfold wnF wsF
    rw [wn_mono h k]; rfl
theorem wn_thru {m : Nat → Nat → Bool} : ∀ k i x j, x < k → wnF m k i x = true → wnF m k x j = true → wnF m k i j = true
  | 0, _, _, _, hx, _, _ => absurd hx (Nat.not_lt_zero _)
  | k + 1, i, x, j, hx, h1, h2 => by
    have T := wn_thru (m := m) k
    unfold wnF wsF at h1 h2 ⊢
    rw [Bool.or_eq_true, Bool.and_eq_true] at h1 h2 ⊢
    by_cases e : x = k
    · subst e
      refine .inr ⟨?_, ?_⟩
      · rcases h1 with h | h
        · exact h
        · exact h.1
      · rcases h2 with h | h
        · exact h
        · exact h.2
    · have hk : x < k := by omega
      rcases h1 with h1 | ⟨h1, h1'⟩
      · rcases h2 with h2 | ⟨h2, h2'⟩
        · exact .inl (T i x j hk h1 h2)
        · exact .inr ⟨T i x k hk h1 h2, h2'⟩
      · rcases h2 with h2 | ⟨h2, h2'⟩
        · exact .inr ⟨h1, T k x j hk h1' h2⟩
        · exact .inr ⟨h1, h2'⟩
theorem wn_all {m : Nat → Nat → Bool} {e : Nat → Nat → Prop} {n : Nat} (hm : ∀ a b, e a b → m a b = true) (he : ∀ a b, e a b → b < n) {a b : Nat} (h : Wp e a b) : wnF m n a b = true := by
  obtain ⟨x, h1, h2⟩ := h
  induction h2 generalizing a with
  | here u => exact wn_mono (hm _ _ h1) n
  | on h3 _ ih => exact wn_thru n _ _ _ (he _ _ h1) (wn_mono (hm _ _ h1) n) (ih h3)
/-- The edges as truths. -/
def mR (n : Nat) (rows : List (List (Int × Int))) (a b : Nat) : Bool := decide (b < n) && (rows.getD a []).any fun e => decide (e.1 = (b : Int))
theorem mR_iff {n : Nat} {rows : List (List (Int × Int))} {a b : Nat} : mR n rows a b = true ↔ eR n rows a b := by
  rw [eR_mem]
  unfold mR
  rw [Bool.and_eq_true, decide_eq_true_iff, List.any_eq_true]
  simp only [decide_eq_true_iff]
/-- All ways. -/
def wR (n : Nat) (rows : List (List (Int × Int))) : Nat → Nat → Bool := wnF (mR n rows) n
theorem wR_iff {n : Nat} {rows : List (List (Int × Int))} {a b : Nat} : wR n rows a b = true ↔ Wp (eR n rows) a b :=
  ⟨fun h => wn_sound (fun a b h => ⟨b, mR_iff.1 h, .here b⟩) n a b h, fun h => wn_all (fun a b h => mR_iff.2 h) (fun a b h => h.1) h⟩
/-- The row's edges so far. -/
def mRk (n : Nat) (row : List (Int × Int)) (j b : Nat) : Bool := decide (b < n) && (row.take j).any fun e => decide (e.1 = (b : Int))
theorem mRk_full {n : Nat} {rows : List (List (Int × Int))} {a : Nat} (b : Nat) : mRk n (rows.getD a []) (rows.getD a []).length b = mR n rows a b := by
  unfold mRk mR
  rw [List.take_of_length_le (Nat.le_refl _)]
theorem mRk_zero (n : Nat) (row : List (Int × Int)) (b : Nat) : mRk n row 0 b = false := by simp [mRk]
theorem mRk_snoc {n : Nat} {row : List (Int × Int)} {j : Nat} (h : j < row.length) (b : Nat) : mRk n row (j + 1) b = (mRk n row j b || (decide (b < n) && decide ((row.getD j (0, 0)).1 = (b : Int)))) := by
  unfold mRk
  rw [List.take_succ_eq_append_getElem h, List.any_append, Bool.and_or_distrib_left]
  simp [List.getD, h]

/-- A matrix of truths: the outer row v holds the slices of cnt rows of n truths each. -/
structure MX (base : Nat) (w : World) (v : Value) (n cnt : Nat) (rb : Nat → Nat) (m : Nat → Nat → Bool) : Prop where
  own : w.ownsRow base 33 1 v cnt ((List.range cnt).map fun j => Value.slice (some ⟨rb j, 0, none⟩) n n)
  row : ∀ j, j < cnt → w.rowIs (rb j) 4 n (fun k => .bool (m j k))
  inc : ∀ j k, j < k → k < cnt → rb j < rb k
  low : ∀ j, j < cnt → base ≤ rb j
theorem MX.cell {base : Nat} {w : World} {v : Value} {n cnt : Nat} {rb : Nat → Nat} {m : Nat → Nat → Bool} (h : MX base w v n cnt rb m) (hc : 0 < cnt) : ∃ g cap, v = .slice (some ⟨g, 0, none⟩) cnt cap ∧ cnt ≤ cap ∧ g < w.heap.size ∧ base ≤ g ∧ ∀ j, j < cnt → w.cell? ⟨g, j, none⟩ = some (.slice (some ⟨rb j, 0, none⟩) n n) := by
  obtain ⟨g, cap, e, h1, h2⟩ := World.ownsRow.form h.own hc
  subst e
  refine ⟨g, cap, rfl, ?_, h2, h1, fun j hj => ?_⟩
  · rcases h.own.2 with ⟨e, _⟩ | ⟨g', cap', cur, e, _, _, h3, _⟩
    · cases e
    · cases e; exact h3
  · have := World.ownsRow.cellAt h.own j (by simpa using hj)
    rw [this, List.getElem?_map, List.getElem?_range hj]
    rfl
theorem MX.form {base : Nat} {w : World} {v : Value} {n cnt : Nat} {rb : Nat → Nat} {m : Nat → Nat → Bool} (h : MX base w v n cnt rb m) : ∃ A cap, v = .slice A cnt cap := by
  rcases h.own.2 with ⟨e, h0⟩ | ⟨g', cap', cur, e, _⟩
  · exact ⟨none, 0, by rw [e, h0]⟩
  · exact ⟨_, _, e⟩
theorem MX.apart {base : Nat} {w : World} {v : Value} {n cnt : Nat} {rb : Nat → Nat} {m : Nat → Nat → Bool} (h : MX base w v n cnt rb m) {j : Nat} (hj : j < cnt) : v.ownBlock ≠ some (rb j) := fun e => by
  obtain ⟨c, hc, _⟩ := h.row j hj
  rcases h.own.2 with ⟨e2, _⟩ | ⟨g', cap', cur, e2, _, hg, _⟩
  · rw [e2] at e; cases e
  · rw [e2] at e
    injection e with e
    have e : g' = rb j := e
    subst e
    rw [hg] at hc
    injection hc with hc
    injection hc with _ hc _
    exact absurd hc (by decide)
theorem MX.keep {base : Nat} {w w' : World} {v : Value} {n cnt : Nat} {rb : Nat → Nat} {m : Nat → Nat → Bool} (h : MX base w v n cnt rb m) (hk : ∀ q, base ≤ q → q < w.heap.size → w'.heap[q]? = w.heap[q]?) : MX base w' v n cnt rb m where
  own := by
    refine ⟨h.own.1, ?_⟩
    rcases h.own.2 with h1 | ⟨g, cap, cur, e, hb, hg, r⟩
    · exact .inl h1
    · exact .inr ⟨g, cap, cur, e, hb, (hk g hb (Array.getElem?_eq_some_iff.1 hg).1).trans hg, r⟩
  row j hj := (h.row j hj).of_block (hk _ (h.low j hj) (h.row j hj).lt)
  inc := h.inc
  low := h.low
theorem MX.below {base : Nat} {w w' : World} {v : Value} {n cnt : Nat} {rb : Nat → Nat} {m : Nat → Nat → Bool} (h : MX base w v n cnt rb m) (k : Below w.heap.size w w') : MX base w' v n cnt rb m := h.keep (fun q _ hq => k.block q hq)
theorem MX.congr {base : Nat} {w : World} {v : Value} {n cnt : Nat} {rb : Nat → Nat} {m m' : Nat → Nat → Bool} (h : MX base w v n cnt rb m) (e : ∀ a b, a < cnt → b < n → m a b = m' a b) : MX base w v n cnt rb m' :=
  ⟨h.own, fun j hj => (h.row j hj).congr (fun k hk => by rw [e j k hj hk]), h.inc, h.low⟩
/-- true at one place. -/
theorem MX.set {base : Nat} {w : World} {v : Value} {n cnt : Nat} {rb : Nat → Nat} {m : Nat → Nat → Bool} (h : MX base w v n cnt rb m) {i k : Nat} (hi : i < cnt) : MX base (w.setCell ⟨rb i, k, none⟩ (.bool true)) v n cnt rb (fun a b => m a b || (a == i && b == k)) where
  own := by
    refine ⟨h.own.1, ?_⟩
    rcases h.own.2 with h1 | ⟨g, cap, cur, e, hb, hg, r⟩
    · exact .inl h1
    · have hne : g ≠ rb i := fun e2 => h.apart hi (by rw [e, e2]; rfl)
      exact .inr ⟨g, cap, cur, e, hb, (Below.heap_setCell w ⟨rb i, k, none⟩ _ g hne).trans hg, r⟩
  row j hj := by
    by_cases e : j = i
    · subst e
      exact ((h.row j hj).set k (.bool true)).congr (fun b hb => by
        by_cases hbk : b = k
        · subst hbk; simp
        · have h1 : (b == k) = false := by simpa using hbk
          rw [if_neg hbk, h1]; simp)
    · have hne : rb j ≠ rb i := fun e2 => by
        rcases Nat.lt_or_gt_of_ne e with h1 | h1
        · have := h.inc j i h1 hi; omega
        · have := h.inc i j h1 hj; omega
      have h1 : (j == i) = false := by simpa using e
      exact ((h.row j hj).setOther (a := ⟨rb i, k, none⟩) hne _).congr (fun b hb => by rw [h1]; simp)
  inc := h.inc
  low := h.low
theorem own_bools {base base' : Nat} {w : World} {v : Value} {n cnt b : Nat} {xs : List Value} {f : Nat → Value} (h : w.ownsRow base 33 1 v cnt xs) (hr : w.rowIs b 4 n f) : v.ownBlock ≠ some b := fun e => by
  obtain ⟨c, hc, _⟩ := hr
  rcases h.2 with ⟨e2, _⟩ | ⟨g', cap', cur, e2, _, hg, _⟩
  · rw [e2] at e; cases e
  · rw [e2] at e
    injection e with e
    have e : g' = b := e
    subst e
    rw [hg] at hc
    injection hc with hc
    injection hc with _ hc _
    exact absurd hc (by decide)
set_option maxRecDepth 20000 in
/-- append of a row made onto the outer row. -/
theorem append_mx {w : World} {ops : Array Oper} {rest : List Oper} {o : Oper} {a : Act} {Q : Exit → Act → World → Prop} (hgd : o.guard = none) (s x : Operand)
    (ho : o.op = .call { callee := .builtin .append, args := #[s, x], argTypes := #[82, 82] })
    (base : Nat) (v : Value) (n cnt : Nat) (rb : Nat → Nat) (m : Nat → Nat → Bool) (hs : a.eval s = v) (hown : MX base w v n cnt rb m) (b : Nat) (f : Nat → Bool) (hb : w.rowIs b 4 n (fun k => .bool (f k)))
    (hlow : base ≤ b) (hinc : ∀ j, j < cnt → rb j < b) (hx : a.eval x = .slice (some ⟨w.heap.size, 0, none⟩) 1 1) (hlen : cnt + 1 ≤ 1000) (hbase : base ≤ w.heap.size)
    (h : ∀ v' w', MX base w' v' n (cnt + 1) (fun j => if j = cnt then b else rb j) (fun a k => if a = cnt then f k else m a k) → Below base w w' → wpList Try.prog ops Q rest (a.put o.dst v') w') :
    wpList Try.prog ops Q (o :: rest) a (w.alloc (.cells #[.slice (some ⟨b, 0, none⟩) n n] 33)) := by
  obtain ⟨i0, hi, hz0, hz1, hz2⟩ := info_parts (show (Try.prog.info? 33).map (fun i => (i.zero, i.size, i.bytes)) = some (some (.slice none 0 0), 1, 24) by kernel_rfl)
  have hB1 : Below w.heap.size w (w.alloc (.cells #[.slice (some ⟨b, 0, none⟩) n n] 33)) := (Below.refl _ _).alloc (Nat.le_refl _) _
  refine wpList_append_own_at _ hgd s x 82 ho base 33 i0 (.slice none 0 0) 1 24 Try.underlying82 hi hz0 hz1 hz2 rfl (by decide) v cnt _ hs (hown.own.alloc _) ⟨w.heap.size, 0, none⟩ 1 1 [.slice (some ⟨b, 0, none⟩) n n] hx rfl (cell_one_new _ _ _) (by simp [Value.oneCell']) (by unfold maxLen; omega) (by omega) (by simp; omega) ?_
  intro v' w' hown' hgrow _ _
  have hkeep : ∀ q, q < w.heap.size → v.ownBlock ≠ some q → w'.heap[q]? = w.heap[q]? := fun q hq hne => (hgrow.block q (by simp; omega) (fun e => hne e.symm)).trans (Below.heap_alloc w _ q hq)
  refine h v' w' ⟨?_, fun j hj => ?_, fun j k hjk hk => ?_, fun j hj => ?_⟩ (Below.grown ((Below.refl _ _).alloc hbase _) hgrow (by simp; omega) (fun k hk => (hown.own.lt k hk).1))
  · have e : (List.range (cnt + 1)).map (fun j => Value.slice (some ⟨if j = cnt then b else rb j, 0, none⟩) n n) = (List.range cnt).map (fun j => Value.slice (some ⟨rb j, 0, none⟩) n n) ++ [.slice (some ⟨b, 0, none⟩) n n] := by
      rw [List.range_succ, List.map_append]
      congr 1
      · refine List.map_congr_left (fun j hj => ?_)
        have := List.mem_range.1 hj
        rw [if_neg (by omega)]
      · simp
    show w'.ownsRow base 33 1 v' (cnt + 1) ((List.range (cnt + 1)).map (fun j => Value.slice (some ⟨if j = cnt then b else rb j, 0, none⟩) n n))
    rw [e]
    exact hown'
  · by_cases e : j = cnt
    · subst e
      simp only [if_true]
      exact hb.of_block (hkeep b hb.lt (own_bools (base' := base) hown.own hb))
    · simp only [if_neg e]
      have hj' : j < cnt := by omega
      exact (hown.row j hj').of_block (hkeep _ (hown.row j hj').lt (hown.apart hj'))
  · by_cases e : k = cnt
    · rw [if_neg (by omega), if_pos e]; exact hinc j (by omega)
    · rw [if_neg (by omega), if_neg e]; exact hown.inc j k hjk (by omega)
  · by_cases e : j = cnt
    · rw [if_pos e]; exact hlow
    · rw [if_neg e]; exact hown.low j (by omega)
theorem MX.nil (base : Nat) (w : World) (n : Nat) : MX base w (.slice none 0 0) n 0 (fun _ => 0) (fun _ _ => false) := ⟨World.ownsRow_nil _ _ _ _, fun j hj => absurd hj (by omega), fun j k _ hk => absurd hk (by omega), fun j hj => absurd hj (by omega)⟩
end Go.Proofs.Ytnfiohekdbjgoaa.sc
