/- What holds of a word, of the word from a place on, of the shortest way, of the loop gone over once more: plain; an append of all in a drawn region. -/
import Derived.Test.YtophajljjnjcdaaWdAwake
import Derived.Test.YtophajljjnjcdaaWdOpens
namespace Go.Proofs.Ytophajljjnjcdaa.wd
open Go.ChangeShapes Go.WideShapes Go.ChangeAt Go.RowKit Go.Deep sr lt nf

theorem tr_tree {e : List (Int × Int)} (h : isF e = true) : ∃ t, Wf t ∧ ∀ (sets : List Int) (s : Nat), trJ e (outF e e.length) sets s (e.length - 1) = semF sets s t := by
  obtain ⟨t, h1, h2, h3⟩ := tree_of (isF_iff.1 h)
  have hp := (whole_last (isF_iff.1 h)).1
  refine ⟨t, h3, fun sets s => ?_⟩
  have := tr_sem e (outF e e.length) sets s t 0 h1 h3 e.length (by omega)
  rw [Nat.zero_add, h2] at this
  unfold trJ
  rw [show e.length - 1 + 1 = e.length by omega]
  exact this
theorem hd_tree {e : List (Int × Int)} (h : isF e = true) : ∃ t, ∀ (st lp : List Int), 0 < lp.length → (hdF e (st ++ lp) st.length lp.length = true ↔ tru t (fun g => atF st lp (g : Nat)) 0) ∧
    ∀ k, k < st.length + lp.length → ((trJ e (outF e e.length) (st ++ lp) st.length (e.length - 1)).getD k false = true ↔ tru t (fun g => atF st lp (g : Nat)) k) := by
  obtain ⟨t, hw, ht⟩ := tr_tree h
  refine ⟨t, fun st lp h0 => ?_⟩
  have hl : (st ++ lp).length = st.length + lp.length := List.length_append
  have hs := sem_tru (st ++ lp) st.length (by omega) t hw
  have hσ : (fun k => (st ++ lp).getD (plc st.length (st ++ lp).length k) 0) = fun g => atF st lp (g : Nat) := funext (fun k => at_plc h0 k)
  rw [hσ] at hs
  have h2 : ∀ k, k < st.length + lp.length → ((trJ e (outF e e.length) (st ++ lp) st.length (e.length - 1)).getD k false = true ↔ tru t (fun g => atF st lp (g : Nat)) k) := fun k hk => by
    rw [ht]
    have := hs k
    rw [plc_id (by omega)] at this
    exact this
  refine ⟨?_, h2⟩
  unfold hdF
  rw [show okF e lp.length = true from okF_iff.2 ⟨h, h0⟩, Bool.true_and]
  exact h2 0 (by omega)
theorem more_at {st lp : List Int} (h0 : 0 < lp.length) (k : Nat) : atF (st ++ lp) lp (k : Int) = atF st lp (k : Int) := by
  have hl : (st ++ lp).length = st.length + lp.length := List.length_append
  by_cases h : k < st.length + lp.length
  · rw [at_in (by omega), at_sets h]
  · rw [at_loop (by omega) h0, at_loop (by omega) h0, hl]
    congr 1
    rw [show k - st.length = (k - (st.length + lp.length)) + lp.length by omega, Nat.add_mod_right]
theorem hd_eq {e : List (Int × Int)} (h : isF e = true) {st lp st2 lp2 : List Int} (h0 : 0 < lp.length) (h2 : 0 < lp2.length) (hat : ∀ k : Nat, atF st2 lp2 (k : Int) = atF st lp (k : Int)) : hdF e (st2 ++ lp2) st2.length lp2.length = hdF e (st ++ lp) st.length lp.length := by
  obtain ⟨t, ht⟩ := hd_tree h
  have e1 := (ht st lp h0).1
  have e2 := (ht st2 lp2 h2).1
  have hf : (fun g : Nat => atF st2 lp2 (g : Int)) = fun g : Nat => atF st lp (g : Int) := funext hat
  rw [hf] at e2
  exact Bool.eq_iff_iff.2 (e2.trans e1.symm)
theorem hd_shift {e : List (Int × Int)} (h : isF e = true) {st lp : List Int} (h0 : 0 < lp.length) {k : Nat} (hk : k < st.length + lp.length) : hdF e ((shfF st lp k).1 ++ (shfF st lp k).2) (shfF st lp k).1.length (shfF st lp k).2.length = (trJ e (outF e e.length) (st ++ lp) st.length (e.length - 1)).getD k false := by
  obtain ⟨t, ht⟩ := hd_tree h
  have e1 := (ht st lp h0).2 k hk
  have e2 := (ht (shfF st lp k).1 (shfF st lp k).2 (shf_pos h0 k)).1
  have hf : (fun g : Nat => atF (shfF st lp k).1 (shfF st lp k).2 (g : Int)) = fun g : Nat => (fun x : Nat => atF st lp (x : Int)) (g + k) := funext (fun g => shf_at h0 k g)
  rw [hf] at e2
  have e3 := tru_off (fun x : Nat => atF st lp (x : Int)) k t 0
  rw [Nat.zero_add] at e3
  exact Bool.eq_iff_iff.2 (e2.trans (e3.trans e1.symm))
theorem same_more {st lp : List Int} (h0 : 0 < lp.length) : sameF st lp (st ++ lp) lp = true := by
  rw [same_yes h0 h0, nrm_more h0]
  simp [eqB]
section
variable {α : Type} {enc : α → List Value} {size : Nat} [Inhabited α]
/-- append of all of a slice that may hold nothing: the run. -/
theorem run_append_all {t e : TypeId} {z : Value} {bytes : Nat} (hsz : ∀ x, (enc x).length = size) (hone : ∀ x, ∀ u ∈ enc x, u.oneCell' = true) (ht : Try.prog.underlying t = some (.slice e)) (hi : (Try.prog.info? e).map (fun i => (i.zero, i.size, i.bytes)) = some (some z, size, bytes)) (hzs : z.cells.size = size) (h0 : 0 < size) (hby : bytes ≤ 100)
    {w : World} (base : Nat) (v : Value) (l : List α) (hown : OR enc size base e w v l) (A : Option Addr) (m c : Nat) (l2 : List α) (hm : m = l2.length) (hA : RS enc size w A l2) (hlen : l.length + m ≤ 100000) (hbase : base ≤ w.heap.size) :
    ∃ v' w', (Builtin.append_ #[t, t] t #[v, .slice A m c]).run Try.prog w = .ok v' w' ∧ OR enc size base e w' v' (l ++ l2) ∧ Below base w w' ∧ w.grownBy w' v.ownBlock := by
  by_cases hpos : 0 < m
  · obtain ⟨v', w', hr, h2, h3⟩ := run_append_rs hsz hone ht hi hzs h0 hby (w := w) base v l hown A m c l2 hm hpos hA (by omega) hbase
    exact ⟨v', w', hr, h2, Below.grown (Below.refl _ _) h3 hbase (fun k hk => (World.ownsRow.lt hown k hk).1), h3⟩
  · obtain rfl : m = 0 := by omega
    have e2 : l2 = [] := List.length_eq_zero_iff.1 hm.symm
    subst e2
    obtain ⟨i0, hi0, hz0, hz1, hz2⟩ := info_parts hi
    obtain ⟨A1, c1, hv, _⟩ := OR.rs hsz hown
    have hle := or_le (hv ▸ hown)
    refine ⟨v, w, ?_, by rw [List.append_nil]; exact hown, Below.refl _ _, ⟨rfl, rfl, rfl, Nat.le_refl _, fun _ _ _ => rfl⟩⟩
    rw [hv]
    exact run_append_nothing w t t t e i0 ht hi0 A1 l.length c1 hle.2 _ (match A with
      | some ad => Src.ofSlice w ht ad 0 c [] (by simp) (fun j u hu => by simp at hu) (fun u hu => by simp at hu)
      | none => Src.ofNil w ht c)
theorem step_append_all {t e : TypeId} {z : Value} {bytes : Nat} (hsz : ∀ x, (enc x).length = size) (hone : ∀ x, ∀ u ∈ enc x, u.oneCell' = true) (ht : Try.prog.underlying t = some (.slice e)) (hi : (Try.prog.info? e).map (fun i => (i.zero, i.size, i.bytes)) = some (some z, size, bytes)) (hzs : z.cells.size = size) (h0 : 0 < size) (hby : bytes ≤ 100)
    {w : World} {ops : Array Oper} {o : Oper} {a : Act} {K : Act → World → Prop} {Q : Exit → Act → World → Prop} {E : Prop} (base : Nat) (hgd : o.guard = none) (s x : Operand)
    (ho : o.op = .call { callee := .builtin .append, args := #[s, x], argTypes := #[t, t] }) (hty : o.type = t) (v : Value) (l : List α) (hs : a.eval s = v) (hown : OR enc size base e w v l) (A : Option Addr) (m c : Nat) (l2 : List α) (hx : a.eval x = .slice A m c) (hm : m = l2.length) (hA : RS enc size w A l2) (hlen : l.length + m ≤ 100000) (hbase : base ≤ w.heap.size)
    (h : ∀ v' w', OR enc size base e w' v' (l ++ l2) → Below base w w' → w.grownBy w' v.ownBlock → K (a.put o.dst v') w') :
    if Region.wanted o (yielded ops a.tmps) = true then Oper.wp Try.prog o a w K Q else E := by
  obtain ⟨v', w', hr, h2, h3, h4⟩ := run_append_all hsz hone ht hi hzs h0 hby (w := w) base v l hown A m c l2 hm hA hlen hbase
  exact step_append_at hgd s x ho hty hs hx hr (h v' w' h2 h3 h4)
end
/-- A row of numbers is no word's box. -/
theorem or_box {base Z : Nat} {w : World} {v : Value} {l : List Int} {f : Nat → Value} (h : OR encU 1 base 30 w v l) (hz : w.rowIs Z 24 2 f) : v.ownBlock ≠ some Z := fun e => by
  rcases h.2 with ⟨e2, _⟩ | ⟨g, cap, cur, e2, _, hg, _⟩
  · rw [e2] at e; cases e
  · rw [e2] at e
    have e3 : g = Z := by injection e
    subst e3
    obtain ⟨cs, h1, _⟩ := hz
    rw [h1] at hg
    injection hg with hg
    injection hg with _ h9
    exact absurd h9 (by decide)
theorem rowIs_grown {Z : Nat} {w w' : World} {r : Option Nat} {f : Nat → Value} (hz : w.rowIs Z 24 2 f) (hg : w.grownBy w' r) (hr : r ≠ some Z) : w'.rowIs Z 24 2 f := hz.of_block (hg.block _ hz.lt (fun e => hr e.symm))
end Go.Proofs.Ytophajljjnjcdaa.wd
