/- Searches: plain facts. Nothing here speaks of the program. -/
import Derived.Test.YtnfiohekdbjgoaaGraph
namespace Go.Proofs.Ytnfiohekdbjgoaa

theorem nd_len {α : Type} [BEq α] [LawfulBEq α] : ∀ (l m : List α), l.Nodup → (∀ x ∈ l, x ∈ m) → l.length ≤ m.length
  | [], _, _, _ => Nat.zero_le _
  | a :: t, m, hn, hs => by
    have ha : a ∈ m := hs a (by simp)
    have h := nd_len t (m.erase a) (List.nodup_cons.1 hn).2 (fun x hx => (List.mem_erase_of_ne (fun e : x = a => (List.nodup_cons.1 hn).1 (by rw [← e]; exact hx))).2 (hs x (by simp [hx])))
    rw [List.length_erase_of_mem ha] at h
    have := List.length_pos_of_mem ha
    simp; omega

/-- Has node k been met? What has been met, in order: each node with the one ahead of it. -/
def metB (tr : List (Nat × Int)) (k : Nat) : Bool := tr.any fun x => x.1 == k
theorem metB_snoc (tr : List (Nat × Int)) (k j : Nat) (a : Int) : metB (tr ++ [(k, a)]) j = (metB tr j || k == j) := by simp [metB]
theorem metB_iff {tr : List (Nat × Int)} {k : Nat} : metB tr k = true ↔ k ∈ tr.map Prod.fst := by
  unfold metB
  rw [List.any_eq_true, List.mem_map]
  constructor
  · rintro ⟨x, hx, e⟩; exact ⟨x, hx, by simpa using e⟩
  · rintro ⟨x, hx, e⟩; exact ⟨x, hx, by simpa using e⟩

/-- A row is gone over. -/
def rowF (n : Nat) (go : List (Nat × Int) → Bool) (ahead : Int) : List (Int × Int) → List (Nat × Int) → List (Nat × Int) × Bool
  | [], tr => (tr, true)
  | e :: l, tr =>
    if (nodeB n e.1 && !metB tr e.1.toNat) = true then
      if go (tr ++ [(e.1.toNat, ahead)]) = true then rowF n go ahead l (tr ++ [(e.1.toNat, ahead)]) else (tr ++ [(e.1.toNat, ahead)], false)
    else rowF n go ahead l tr
theorem rowF_skip {n : Nat} {go : List (Nat × Int) → Bool} {ahead : Int} {e : Int × Int} {l : List (Int × Int)} {tr : List (Nat × Int)} (h : (nodeB n e.1 && !metB tr e.1.toNat) = false) : rowF n go ahead (e :: l) tr = rowF n go ahead l tr := by
  rw [rowF, if_neg (by rw [h]; decide)]
theorem rowF_go {n : Nat} {go : List (Nat × Int) → Bool} {ahead : Int} {e : Int × Int} {l : List (Int × Int)} {tr : List (Nat × Int)} (h : (nodeB n e.1 && !metB tr e.1.toNat) = true) (hg : go (tr ++ [(e.1.toNat, ahead)]) = true) : rowF n go ahead (e :: l) tr = rowF n go ahead l (tr ++ [(e.1.toNat, ahead)]) := by
  rw [rowF, if_pos h, if_pos hg]
theorem rowF_stop {n : Nat} {go : List (Nat × Int) → Bool} {ahead : Int} {e : Int × Int} {l : List (Int × Int)} {tr : List (Nat × Int)} (h : (nodeB n e.1 && !metB tr e.1.toNat) = true) (hg : go (tr ++ [(e.1.toNat, ahead)]) = false) : rowF n go ahead (e :: l) tr = (tr ++ [(e.1.toNat, ahead)], false) := by
  rw [rowF, if_pos h, if_neg (by rw [hg]; decide)]

/-- The search goes on. -/
def seaF (n : Nat) (rows : List (List (Int × Int))) (go : List (Nat × Int) → Bool) : Nat → List (Int × Int) → Int → List (Nat × Int) → Nat → List (Nat × Int)
  | 0, _, _, tr, _ => tr
  | f + 1, row, ahead, tr, h =>
    if (rowF n go ahead row tr).2 = true then
      if h < (rowF n go ahead row tr).1.length then seaF n rows go f (rows.getD ((rowF n go ahead row tr).1.getD h (0, 0)).1 []) (((rowF n go ahead row tr).1.getD h (0, 0)).1 : Int) (rowF n go ahead row tr).1 (h + 1)
      else (rowF n go ahead row tr).1
    else (rowF n go ahead row tr).1
theorem seaF_stop {n : Nat} {rows : List (List (Int × Int))} {go : List (Nat × Int) → Bool} {f : Nat} {row : List (Int × Int)} {a : Int} {tr tr' : List (Nat × Int)} {h : Nat} (e : rowF n go a row tr = (tr', false)) : seaF n rows go (f + 1) row a tr h = tr' := by
  rw [seaF, e]; simp
theorem seaF_end {n : Nat} {rows : List (List (Int × Int))} {go : List (Nat × Int) → Bool} {f : Nat} {row : List (Int × Int)} {a : Int} {tr tr' : List (Nat × Int)} {h : Nat} (e : rowF n go a row tr = (tr', true)) (hh : tr'.length ≤ h) : seaF n rows go (f + 1) row a tr h = tr' := by
  rw [seaF, e]; simp; omega
theorem seaF_next {n : Nat} {rows : List (List (Int × Int))} {go : List (Nat × Int) → Bool} {f : Nat} {row : List (Int × Int)} {a : Int} {tr tr' : List (Nat × Int)} {h : Nat} (e : rowF n go a row tr = (tr', true)) (hh : h < tr'.length) : seaF n rows go (f + 1) row a tr h = seaF n rows go f (rows.getD (tr'.getD h (0, 0)).1 []) ((tr'.getD h (0, 0)).1 : Int) tr' (h + 1) := by
  rw [seaF, e]
  simp only [if_pos hh]
  simp

/-- What has been met is nodes, each once. -/
structure TrOk (n : Nat) (tr : List (Nat × Int)) : Prop where
  nd : (tr.map Prod.fst).Nodup
  lt : ∀ k ∈ tr.map Prod.fst, k < n
theorem TrOk.nil (n : Nat) : TrOk n [] := ⟨by simp, fun k hk => by simp at hk⟩
theorem TrOk.len {n : Nat} {tr : List (Nat × Int)} (h : TrOk n tr) : tr.length ≤ n := by
  have := nd_len (tr.map Prod.fst) (List.range n) h.nd (fun x hx => List.mem_range.2 (h.lt x hx))
  simpa using this
theorem TrOk.snoc {n : Nat} {tr : List (Nat × Int)} (h : TrOk n tr) {k : Nat} (a : Int) (hk : k < n) (hm : metB tr k = false) : TrOk n (tr ++ [(k, a)]) := by
  have hm2 : k ∉ tr.map Prod.fst := fun hx => by rw [metB_iff.2 hx] at hm; cases hm
  refine ⟨?_, fun j hj => ?_⟩
  · rw [List.map_append, List.nodup_append]
    refine ⟨h.nd, by simp, fun a ha b hb => ?_⟩
    simp only [List.map_cons, List.map_nil, List.mem_cons, List.not_mem_nil, or_false] at hb
    subst hb
    exact fun e => hm2 (by rw [← e]; exact ha)
  · rw [List.map_append] at hj
    rcases List.mem_append.1 hj with hj | hj
    · exact h.lt j hj
    · simp only [List.map_cons, List.map_nil, List.mem_cons, List.not_mem_nil, or_false] at hj
      subst hj; exact hk
theorem TrOk.at_ {n : Nat} {tr : List (Nat × Int)} (h : TrOk n tr) {i : Nat} (hi : i < tr.length) : (tr.getD i (0, 0)).1 < n :=
  h.lt _ (List.mem_map.2 ⟨tr[i], List.getElem_mem hi, by simp [List.getD, hi]⟩)

/-- What waits: the nodes met, from the h-th on. -/
def waitL (tr : List (Nat × Int)) (h : Nat) : List Int := (tr.map fun x => (x.1 : Int)).drop h
theorem waitL_len (tr : List (Nat × Int)) (h : Nat) : (waitL tr h).length = tr.length - h := by simp [waitL]
theorem waitL_snoc {tr : List (Nat × Int)} {h : Nat} (hh : h ≤ tr.length) (k : Nat) (a : Int) : waitL (tr ++ [(k, a)]) h = waitL tr h ++ [(k : Int)] := by
  unfold waitL
  rw [List.map_append, List.drop_append_of_le_length (by simpa using hh)]
  rfl
theorem waitL_head {tr : List (Nat × Int)} {h : Nat} (hh : h < tr.length) : (waitL tr h).getD 0 0 = ((tr.getD h (0, 0)).1 : Int) := by
  simp [waitL, List.getD, hh]
theorem waitL_tail (tr : List (Nat × Int)) (h : Nat) : (waitL tr h).drop 1 = waitL tr (h + 1) := by simp [waitL, List.drop_drop]
theorem rowF_ok {n : Nat} {go : List (Nat × Int) → Bool} {a : Int} : ∀ {l : List (Int × Int)} {tr : List (Nat × Int)}, TrOk n tr → TrOk n (rowF n go a l tr).1
  | [], _, h => h
  | e :: l, tr, h => by
    rw [rowF]
    by_cases h1 : (nodeB n e.1 && !metB tr e.1.toNat) = true
    · have h2 : TrOk n (tr ++ [(e.1.toNat, a)]) := by
        simp only [Bool.and_eq_true, Bool.not_eq_true'] at h1
        unfold nodeB at h1
        have := of_decide_eq_true h1.1
        exact h.snoc a (by omega) h1.2
      rw [if_pos h1]
      split
      · exact rowF_ok h2
      · exact h2
    · rw [if_neg h1]; exact rowF_ok h
theorem seaF_ok {n : Nat} {rows : List (List (Int × Int))} {go : List (Nat × Int) → Bool} : ∀ {f : Nat} {row : List (Int × Int)} {a : Int} {tr : List (Nat × Int)} {h : Nat}, TrOk n tr → TrOk n (seaF n rows go f row a tr h)
  | 0, _, _, _, _, h => h
  | f + 1, row, a, tr, k, h => by
    rw [seaF]
    have h2 : TrOk n (rowF n go a row tr).1 := rowF_ok h
    split
    · split
      · exact seaF_ok h2
      · exact h2
    · exact h2
end Go.Proofs.Ytnfiohekdbjgoaa
