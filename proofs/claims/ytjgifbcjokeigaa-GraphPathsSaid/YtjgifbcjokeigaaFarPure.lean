/- How far nodes are from goals, as the document counts: plain facts. -/
import Derived.Test.YtjgifbcjokeigaaPathLeast
import Derived.Test.YtjgifbcjokeigaaBack
namespace Go.Proofs.Ytjgifbcjokeigaa

def qL (Q : List Nat) : List Int := Q.map fun k : Nat => (k : Int)
theorem pairAt {l : List (Int × Int)} {i : Nat} (h : i < l.length) : l.getD i (0, 0) = l[i] := by simp [List.getD, h]
theorem qL_snoc (Q : List Nat) (k : Nat) : qL (Q ++ [k]) = qL Q ++ [(k : Int)] := by simp [qL]
theorem qL_len (Q : List Nat) : (qL Q).length = Q.length := by simp [qL]
theorem qL_at {Q : List Nat} {i : Nat} (h : i < Q.length) : (qL Q).getD i 0 = (Q.getD i 0 : Int) := by simp [qL, List.getD, h]
/-- The goals among the first n nodes. -/
def gQ (goal : List Bool) (n : Nat) : List Nat := (List.range n).filter fun k => goal.getD k false
theorem gQ_to (goal : List Bool) : ∀ n, goalsTo goal n = qL (gQ goal n)
  | 0 => rfl
  | n + 1 => by
    rw [goalsTo, gQ_to goal n]
    unfold gQ
    rw [List.range_succ, List.filter_append]
    cases h : goal.getD n false with
    | true => rw [if_pos rfl, show List.filter (fun k => goal.getD k false) [n] = [n] by rw [List.filter_cons, h]; rfl, qL_snoc]
    | false => rw [if_neg (by decide), show List.filter (fun k => goal.getD k false) [n] = [] by rw [List.filter_cons, h]; rfl, List.append_nil]
theorem gQ_mem {goal : List Bool} {n k : Nat} : k ∈ gQ goal n ↔ k < n ∧ goal.getD k false = true := by
  unfold gQ
  rw [List.mem_filter, List.mem_range]
theorem gQ_nd (goal : List Bool) (n : Nat) : (gQ goal n).Nodup := List.nodup_range.filter _
theorem qat_mem {Q : List Nat} {i : Nat} (h : i < Q.length) : Q.getD i 0 ∈ Q := by
  have e : Q.getD i 0 = Q[i] := by simp [List.getD, h]
  rw [e]; exact List.getElem_mem h
theorem qat_of {Q : List Nat} {k : Nat} (h : k ∈ Q) : ∃ i, i < Q.length ∧ Q.getD i 0 = k := by
  obtain ⟨i, hi, rfl⟩ := List.getElem_of_mem h
  exact ⟨i, hi, by simp [List.getD, hi]⟩
theorem qat_app {Q : List Nat} {k i : Nat} (h : i < Q.length) : (Q ++ [k]).getD i 0 = Q.getD i 0 := by
  simp only [List.getD, List.getElem?_append_left h]
theorem qat_last (Q : List Nat) (k : Nat) : (Q ++ [k]).getD Q.length 0 = k := by simp [List.getD]
theorem q_len {Q : List Nat} {n : Nat} (hn : Q.Nodup) (hl : ∀ k ∈ Q, k < n) : Q.length ≤ n := by
  have := nd_len Q (List.range n) hn (fun x hx => List.mem_range.2 (hl x hx))
  simpa using this

/-- What stands while distances are counted: z edges of the at-th one's row are gone over. -/
structure FarI (n : Nat) (T : List (List (Int × Int))) (goal : List Bool) (Q : List Nat) (d : Nat → Int) (at_ z : Nat) : Prop where
  nd : Q.Nodup
  lt : ∀ k ∈ Q, k < n
  mem : ∀ k, k < n → (0 ≤ d k ↔ k ∈ Q)
  neg : ∀ k, k < n → -1 ≤ d k
  goal : ∀ k, k < n → (goal.getD k false = true ↔ d k = 0)
  down : ∀ k, k < n → 0 < d k → ∃ m, m < n ∧ (∃ e ∈ T.getD m [], e.1 = (k : Int)) ∧ d m = d k - 1
  mono : ∀ i j, i < j → j < Q.length → d (Q.getD i 0) ≤ d (Q.getD j 0)
  cap : at_ < Q.length → ∀ j, j < Q.length → d (Q.getD j 0) ≤ d (Q.getD at_ 0) + 1
  done : ∀ i, i < at_ → i < Q.length → ∀ e ∈ T.getD (Q.getD i 0) [], 0 ≤ d e.1.toNat ∧ d e.1.toNat ≤ d (Q.getD i 0) + 1
  part : at_ < Q.length → ∀ i, i < z → i < (T.getD (Q.getD at_ 0) []).length → 0 ≤ d ((T.getD (Q.getD at_ 0) []).getD i (0, 0)).1.toNat ∧ d ((T.getD (Q.getD at_ 0) []).getD i (0, 0)).1.toNat ≤ d (Q.getD at_ 0) + 1
  idx : ∀ j, j < Q.length → d (Q.getD j 0) ≤ j
/-- How far, at first. -/
def far0 (goal : List Bool) (k : Nat) : Int := if goal.getD k false = true then 0 else -1
theorem farI_init (n : Nat) (T : List (List (Int × Int))) (goal : List Bool) : FarI n T goal (gQ goal n) (far0 goal) 0 0 := by
  have hz : ∀ j, j < (gQ goal n).length → far0 goal ((gQ goal n).getD j 0) = 0 := fun j hj => by
    have := (gQ_mem.1 (qat_mem hj)).2
    unfold far0; rw [if_pos this]
  refine ⟨gQ_nd _ _, fun k hk => (gQ_mem.1 hk).1, fun k hk => ?_, fun k hk => ?_, fun k hk => ?_, fun k hk h => ?_, fun i j hij hj => ?_, fun h0 j hj => ?_, fun i hi => absurd hi (Nat.not_lt_zero _), fun _ i hi => absurd hi (Nat.not_lt_zero _), fun j hj => ?_⟩
  · rw [gQ_mem]
    unfold far0
    split <;> simp_all
  · unfold far0; split <;> omega
  · unfold far0
    split
    · simp_all
    · simp_all
  · unfold far0 at h; split at h <;> omega
  · rw [hz j hj, hz i (by omega)]; exact Int.le_refl _
  · rw [hz j hj, hz 0 h0]; omega
  · rw [hz j hj]; omega
theorem FarI.old {n : Nat} {T : List (List (Int × Int))} {goal : List Bool} {Q : List Nat} {d : Nat → Int} {at_ z : Nat} (h : FarI n T goal Q d at_ z) (ha : at_ < Q.length) {k : Nat} (hk : k < n) (hz : ((T.getD (Q.getD at_ 0) []).getD z (0, 0)).1 = (k : Int)) (ho : 0 ≤ d k) : FarI n T goal Q d at_ (z + 1) := by
  refine { h with part := fun ha' i hi hl => ?_ }
  by_cases e : i < z
  · exact h.part ha i e hl
  · obtain rfl : i = z := by omega
    rw [hz, Int.toNat_natCast]
    obtain ⟨j, hj, e⟩ := qat_of ((h.mem k hk).1 ho)
    have := h.cap ha j hj
    rw [e] at this
    exact ⟨ho, this⟩
theorem FarI.new {n : Nat} {T : List (List (Int × Int))} {goal : List Bool} {Q : List Nat} {d : Nat → Int} {at_ z : Nat} (h : FarI n T goal Q d at_ z) (ha : at_ < Q.length) (hzl : z < (T.getD (Q.getD at_ 0) []).length) {k : Nat} (hk : k < n) (hz : ((T.getD (Q.getD at_ 0) []).getD z (0, 0)).1 = (k : Int)) (ho : d k < 0) :
    FarI n T goal (Q ++ [k]) (fun j => if j = k then d (Q.getD at_ 0) + 1 else d j) at_ (z + 1) := by
  have hkQ : k ∉ Q := fun hm => by have := (h.mem k hk).2 hm; omega
  have hne : ∀ i, i < Q.length → Q.getD i 0 ≠ k := fun i hi e => hkQ (by rw [← e]; exact qat_mem hi)
  have h0 : 0 ≤ d (Q.getD at_ 0) := (h.mem _ (h.lt _ (qat_mem ha))).2 (qat_mem ha)
  have hgt : ∀ j : Nat, 0 ≤ d j → 0 ≤ (if j = k then d (Q.getD at_ 0) + 1 else d j) := fun j hj => by split <;> omega
  refine ⟨?_, fun j hj => ?_, fun j hj => ?_, fun j hj => ?_, fun j hj => ?_, fun j hj h1 => ?_, fun i j hij hj => ?_, fun _ j hj => ?_, fun i hi hl e he => ?_, fun _ i hi hl => ?_, fun j hj => ?_⟩
  · rw [List.nodup_append]
    exact ⟨h.nd, by simp, fun a ha' b hb => by simp at hb; subst hb; exact fun e => hkQ (by rw [← e]; exact ha')⟩
  · rcases List.mem_append.1 hj with hj | hj
    · exact h.lt j hj
    · simp at hj; omega
  · rw [List.mem_append]
    by_cases e : j = k
    · subst e; rw [if_pos rfl]; exact ⟨fun _ => by simp, fun _ => by omega⟩
    · rw [if_neg e, h.mem j hj]; simp [e]
  · split
    · omega
    · exact h.neg j hj
  · by_cases e : j = k
    · subst e
      rw [if_pos rfl]
      have := h.goal j hk
      constructor
      · intro h1; have := this.1 h1; omega
      · intro h1; omega
    · rw [if_neg e]; exact h.goal j hj
  · by_cases e : j = k
    · subst e
      rw [if_pos rfl]
      refine ⟨Q.getD at_ 0, h.lt _ (qat_mem ha), ⟨_, ?_, hz⟩, by rw [if_neg (hne at_ ha)]; omega⟩
      have e1 : (T.getD (Q.getD at_ 0) []).getD z (0, 0) = (T.getD (Q.getD at_ 0) [])[z] := pairAt hzl
      rw [e1]; exact List.getElem_mem hzl
    · rw [if_neg e] at h1
      obtain ⟨m, hm, h2, h3⟩ := h.down j hj h1
      refine ⟨m, hm, h2, ?_⟩
      rw [if_neg e, if_neg (fun e2 => by subst e2; omega)]
      exact h3
  · rw [List.length_append, List.length_singleton] at hj
    rw [qat_app (show i < Q.length by omega), if_neg (hne i (by omega))]
    by_cases e : j < Q.length
    · rw [qat_app e, if_neg (hne j e)]; exact h.mono i j hij e
    · obtain rfl : j = Q.length := by omega
      rw [qat_last, if_pos rfl]
      exact h.cap ha i hij
  · rw [List.length_append, List.length_singleton] at hj
    rw [qat_app ha, if_neg (hne at_ ha)]
    by_cases e : j < Q.length
    · rw [qat_app e, if_neg (hne j e)]; exact h.cap ha j e
    · obtain rfl : j = Q.length := by omega
      rw [qat_last, if_pos rfl]; omega
  · have hi2 : i < Q.length := by omega
    rw [qat_app hi2] at he ⊢
    rw [if_neg (hne i hi2)]
    obtain ⟨a1, a2⟩ := h.done i hi hi2 e he
    rw [if_neg (fun e2 => by rw [e2] at a1; omega)]
    exact ⟨a1, a2⟩
  · rw [qat_app ha] at hl ⊢
    rw [if_neg (hne at_ ha)]
    by_cases e : i < z
    · obtain ⟨a1, a2⟩ := h.part ha i e hl
      rw [if_neg (fun e2 => by rw [e2] at a1; omega)]
      exact ⟨a1, a2⟩
    · obtain rfl : i = z := by omega
      rw [hz, Int.toNat_natCast, if_pos rfl]
      omega
  · rw [List.length_append, List.length_singleton] at hj
    by_cases e : j < Q.length
    · rw [qat_app e, if_neg (hne j e)]; exact h.idx j e
    · obtain rfl : j = Q.length := by omega
      rw [qat_last, if_pos rfl]
      have := h.idx at_ ha
      omega
theorem FarI.next {n : Nat} {T : List (List (Int × Int))} {goal : List Bool} {Q : List Nat} {d : Nat → Int} {at_ z : Nat} (h : FarI n T goal Q d at_ z) (ha : at_ < Q.length) (hzl : (T.getD (Q.getD at_ 0) []).length ≤ z) : FarI n T goal Q d (at_ + 1) 0 := by
  refine { h with cap := fun ha' j hj => ?_, done := fun i hi hl e he => ?_, part := fun _ i hi => absurd hi (Nat.not_lt_zero _) }
  · have h1 := h.cap ha j hj
    have h2 := h.mono at_ (at_ + 1) (by omega) ha'
    omega
  · by_cases e0 : i < at_
    · exact h.done i e0 hl e he
    · obtain rfl : i = at_ := by omega
      obtain ⟨q, hq, rfl⟩ := List.getElem_of_mem he
      have := h.part ha q (by omega) hq
      have e1 : (T.getD (Q.getD i 0) []).getD q (0, 0) = (T.getD (Q.getD i 0) [])[q] := pairAt hq
      rw [e1] at this
      exact this
theorem FarI.ok {rows : List (List (Int × Int))} {goal : List Bool} {Q : List Nat} {d : Nat → Int} {at_ : Nat} (h : FarI rows.length (turnR rows) goal Q d at_ 0) (ha : Q.length ≤ at_) : FarOk rows.length rows goal ((List.range rows.length).map d) := by
  have hg : ∀ k, k < rows.length → ((List.range rows.length).map d).getD k 0 = d k := fun k hk => by simp [List.getD, hk]
  refine ⟨by simp, fun k hk => ?_, fun k hk => ?_, fun k hk h1 => ?_, fun k hk e he hn h1 => ?_⟩
  · rw [hg k hk]
    refine ⟨h.neg k hk, ?_⟩
    by_cases h0 : 0 ≤ d k
    · obtain ⟨i, hi, e⟩ := qat_of ((h.mem k hk).1 h0)
      have := h.idx i hi
      have := q_len h.nd h.lt
      rw [e] at *; omega
    · omega
  · rw [hg k hk]; exact h.goal k hk
  · rw [hg k hk] at h1
    obtain ⟨m, hm, ⟨e, he, e1⟩, h2⟩ := h.down k hk h1
    obtain ⟨b, hb, e', he', e2⟩ := turn_mem he
    have : b = k := by omega
    subst this
    refine ⟨e', he', node_iff.2 (by omega), ?_⟩
    rw [e2, Int.toNat_natCast, hg m hm, hg b hk]
    exact h2
  · have hn2 := node_iff.1 hn
    obtain ⟨m, hm⟩ : ∃ m : Nat, e.1 = (m : Int) := ⟨e.1.toNat, by omega⟩
    have hml : m < rows.length := by omega
    rw [hm, Int.toNat_natCast, hg m hml] at h1 ⊢
    rw [hg k hk]
    obtain ⟨i, hi, e2⟩ := qat_of ((h.mem m hml).1 h1)
    obtain ⟨e', he', e3⟩ := turn_has he hn
    rw [hm, Int.toNat_natCast] at he'
    have := h.done i (by omega) hi e' (by rw [e2]; exact he')
    rw [e3, Int.toNat_natCast, e2] at this
    exact this
theorem turn_node {rows : List (List (Int × Int))} {a : Nat} {e : Int × Int} (h : e ∈ (turnR rows).getD a []) : nodeB rows.length e.1 = true := by
  obtain ⟨b, hb, e', he', _⟩ := turn_mem h
  rw [hb]; exact row_node he'
end Go.Proofs.Ytjgifbcjokeigaa
