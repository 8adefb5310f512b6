/- What nodes speak of, each once, in order: sorted and cut to one of each, as put in one by one. Nothing here speaks of the program. -/
import Derived.Lib.SlicesCompact
import Derived.Sort.Statements
namespace Go.Proofs.Ytgbnafakaaooiaa.us
open Go.Lib Go.Sort

def isU (op : Int) : Bool := decide (op = 2 ∨ op = 3 ∨ op = 4 ∨ op = 6 ∨ op = 7)
def ltN (x y : Int × Int) : Bool := decide (x.1 < y.1 ∨ x.1 = y.1 ∧ x.2 < y.2)
theorem ltN_iff {x y : Int × Int} : ltN x y = true ↔ x.1 < y.1 ∨ x.1 = y.1 ∧ x.2 < y.2 := decide_eq_true_iff
theorem ltN_not {x y : Int × Int} : ltN x y = false ↔ ¬ (x.1 < y.1 ∨ x.1 = y.1 ∧ x.2 < y.2) := decide_eq_false_iff_not
theorem ltN_irr (x : Int × Int) : ltN x x = false := by rw [ltN_not]; omega
theorem ltN_trans {x y z : Int × Int} (h : ltN x y = true) (k : ltN y z = true) : ltN x z = true := by rw [ltN_iff] at *; omega
theorem ltN_total {x y : Int × Int} (h : ltN x y = false) (k : ltN y x = false) : x = y := by
  rw [ltN_not] at *
  obtain ⟨a, b⟩ := x
  obtain ⟨c, d⟩ := y
  simp only at h k
  obtain rfl : a = c := by omega
  obtain rfl : b = d := by omega
  rfl
theorem ltN_swo : SWO ltN := ⟨ltN_irr, fun _ _ _ => ltN_trans, fun x y z h k => by rw [ltN_not] at *; omega⟩
def Asc (l : List (Int × Int)) : Prop := l.Pairwise fun a b => ltN a b = true
theorem asc_unique : ∀ {l r : List (Int × Int)}, Asc l → Asc r → (∀ x, x ∈ l ↔ x ∈ r) → l = r
  | [], [], _, _, _ => rfl
  | [], b :: r, _, _, h => by have := (h b).2 (by simp); cases this
  | a :: l, [], _, _, h => by have := (h a).1 (by simp); cases this
  | a :: l, b :: r, ha, hb, h => by
    obtain ⟨a1, a2⟩ := List.pairwise_cons.1 ha
    obtain ⟨b1, b2⟩ := List.pairwise_cons.1 hb
    have hab : a = b := by
      rcases List.mem_cons.1 ((h a).1 (by simp)) with e | e
      · exact e
      · rcases List.mem_cons.1 ((h b).2 (by simp)) with e2 | e2
        · exact e2.symm
        · have := ltN_trans (b1 a e) (a1 b e2)
          rw [ltN_irr] at this
          cases this
    subst hab
    congr 1
    refine asc_unique a2 b2 (fun x => ⟨fun hx => ?_, fun hx => ?_⟩)
    · rcases List.mem_cons.1 ((h x).1 (by simp [hx])) with e | e
      · subst e
        have := a1 x hx
        rw [ltN_irr] at this
        cases this
      · exact e
    · rcases List.mem_cons.1 ((h x).2 (by simp [hx])) with e | e
      · subst e
        have := b1 x hx
        rw [ltN_irr] at this
        cases this
      · exact e
/-- A sorted row cut to one of each. -/
theorem compact_asc {d : Array (Int × Int)} (hs : SortedIn ltN 0 d.size d) : ∀ m, m ≤ d.size →
    Asc (compactUpTo d m) ∧ (∀ x, x ∈ compactUpTo d m → ∃ j, j < m ∧ x = d[j]!) ∧ (∀ j, j < m → d[j]! ∈ compactUpTo d m) ∧ (0 < m → ∀ x, x ∈ compactUpTo d m → x = d[m - 1]! ∨ ltN x d[m - 1]! = true)
  | 0, _ => by
    have h0 : compactUpTo d 0 = [] := rfl
    rw [h0]
    exact ⟨List.Pairwise.nil, fun x hx => absurd hx List.not_mem_nil, fun j h => absurd h (Nat.not_lt_zero _), fun h => absurd h (Nat.lt_irrefl _)⟩
  | m + 1, hm => by
    obtain ⟨h1, h2, h3, h4⟩ := compact_asc hs m (by omega)
    rw [compactUpTo_succ]
    by_cases hk : keeps d m = true
    · rw [if_pos hk]
      have hlt : ∀ x, x ∈ compactUpTo d m → ltN x d[m]! = true := fun x hx => by
        have hm0 : 0 < m := by
          obtain ⟨j, hj, _⟩ := h2 x hx
          omega
        have hne : d[m - 1]! ≠ d[m]! := fun e => by
          have := keeps_neg hm0 e.symm
          rw [hk] at this
          cases this
        have hl : ltN d[m - 1]! d[m]! = true := by
          cases hc : ltN d[m - 1]! d[m]! with
          | true => rfl
          | false => exact absurd (ltN_total hc (hs (m - 1) m (Nat.zero_le _) (by omega) (by omega))) hne
        rcases h4 hm0 x hx with e | e
        · rw [e]; exact hl
        · exact ltN_trans e hl
      refine ⟨List.pairwise_append.2 ⟨h1, List.pairwise_singleton _ _, fun a ha b hb => ?_⟩, fun x hx => ?_, fun j hj => ?_, fun _ x hx => ?_⟩
      · rw [List.mem_singleton] at hb
        subst hb
        exact hlt a ha
      · rcases List.mem_append.1 hx with hx | hx
        · obtain ⟨j, hj, e⟩ := h2 x hx
          exact ⟨j, by omega, e⟩
        · rw [List.mem_singleton] at hx
          exact ⟨m, by omega, hx⟩
      · by_cases e : j = m
        · subst e; simp
        · exact List.mem_append_left _ (h3 j (by omega))
      · rcases List.mem_append.1 hx with hx | hx
        · exact .inr (hlt x hx)
        · rw [List.mem_singleton] at hx
          exact .inl hx
    · rw [if_neg hk, List.append_nil]
      have hm0 : 0 < m := by
        rcases Nat.eq_zero_or_pos m with e | e
        · subst e; exact absurd (keeps_lt_one d 0 (by omega)) hk
        · exact e
      have he : d[m]! = d[m - 1]! := Decidable.byContradiction fun hne => hk (keeps_pos hne)
      refine ⟨h1, fun x hx => ?_, fun j hj => ?_, fun _ x hx => ?_⟩
      · obtain ⟨j, hj, e⟩ := h2 x hx
        exact ⟨j, by omega, e⟩
      · by_cases e : j = m
        · subst e; rw [he]; exact h3 _ (by omega)
        · exact h3 j (by omega)
      · show x = d[m]! ∨ _
        rw [show m + 1 - 1 = m from rfl, he]
        exact h4 hm0 x hx
/-- A number into a rising row, once. -/
def insF (n : Int) : List Int → List Int
  | [] => [n]
  | a :: l => if n < a then n :: a :: l else a :: insF n l
def putF (l : List Int) (n : Int) : List Int := if n ∈ l then l else insF n l
theorem insF_mem {n x : Int} : ∀ {l : List Int}, x ∈ insF n l ↔ x = n ∨ x ∈ l
  | [] => by simp [insF]
  | a :: l => by
    unfold insF
    split
    · simp
    · rw [List.mem_cons, insF_mem, List.mem_cons]
      constructor
      · rintro (h | h | h)
        · exact .inr (.inl h)
        · exact .inl h
        · exact .inr (.inr h)
      · rintro (h | h | h)
        · exact .inr (.inl h)
        · exact .inl h
        · exact .inr (.inr h)
theorem putF_mem {n x : Int} {l : List Int} : x ∈ putF l n ↔ x = n ∨ x ∈ l := by
  unfold putF
  split
  · rename_i h
    exact ⟨.inr, fun hx => hx.elim (fun e => e ▸ h) id⟩
  · exact insF_mem
theorem insF_asc {n : Int} : ∀ {l : List Int}, n ∉ l → l.Pairwise (· < ·) → (insF n l).Pairwise (· < ·)
  | [], _, _ => List.pairwise_singleton _ _
  | a :: l, hn, h => by
    obtain ⟨h1, h2⟩ := List.pairwise_cons.1 h
    unfold insF
    split
    · rename_i hlt
      refine List.pairwise_cons.2 ⟨fun x hx => ?_, h⟩
      rcases List.mem_cons.1 hx with e | e
      · rw [e]; exact hlt
      · have := h1 x e; omega
    · rename_i hlt
      have hne : n ≠ a := fun e => hn (by simp [e])
      refine List.pairwise_cons.2 ⟨fun x hx => ?_, insF_asc (fun h => hn (by simp [h])) h2⟩
      rcases insF_mem.1 hx with e | e
      · rw [e]; omega
      · exact h1 x e
theorem putF_asc {l : List Int} {n : Int} (h : l.Pairwise (· < ·)) : (putF l n).Pairwise (· < ·) := by
  unfold putF
  split
  · exact h
  · rename_i hn; exact insF_asc hn h
/-- The numbers that nodes of one operation have. -/
def numsF (op : Int) (e : List (Int × Int)) : List Int := e.foldl (fun l x => if x.1 = op then putF l x.2 else l) []
theorem numsF_snoc (op : Int) (e : List (Int × Int)) (x : Int × Int) : numsF op (e ++ [x]) = if x.1 = op then putF (numsF op e) x.2 else numsF op e := by
  unfold numsF
  rw [List.foldl_append]
  rfl
theorem nums_fold (op : Int) : ∀ (e : List (Int × Int)) (l : List Int), l.Pairwise (· < ·) → (e.foldl (fun l x => if x.1 = op then putF l x.2 else l) l).Pairwise (· < ·) ∧ ∀ n, n ∈ e.foldl (fun l x => if x.1 = op then putF l x.2 else l) l ↔ n ∈ l ∨ (op, n) ∈ e
  | [], l, h => ⟨h, fun n => by simp⟩
  | x :: e, l, h => by
    rw [List.foldl_cons]
    by_cases hx : x.1 = op
    · rw [if_pos hx]
      obtain ⟨h1, h2⟩ := nums_fold op e (putF l x.2) (putF_asc h)
      refine ⟨h1, fun n => ?_⟩
      rw [h2, putF_mem, List.mem_cons]
      have : (op, n) = x ↔ n = x.2 := by
        obtain ⟨a, b⟩ := x
        simp only at hx
        subst hx
        simp
      rw [this]
      constructor
      · rintro ((h | h) | h)
        · exact .inr (.inl h)
        · exact .inl h
        · exact .inr (.inr h)
      · rintro (h | h | h)
        · exact .inl (.inr h)
        · exact .inl (.inl h)
        · exact .inr h
    · rw [if_neg hx]
      obtain ⟨h1, h2⟩ := nums_fold op e l h
      refine ⟨h1, fun n => ?_⟩
      rw [h2, List.mem_cons]
      have : ¬ (op, n) = x := fun e => hx (by rw [← e])
      simp [this]
theorem numsF_asc (op : Int) (e : List (Int × Int)) : (numsF op e).Pairwise (· < ·) := (nums_fold op e [] List.Pairwise.nil).1
theorem numsF_mem {op n : Int} {e : List (Int × Int)} : n ∈ numsF op e ↔ (op, n) ∈ e := by
  have := (nums_fold op e [] List.Pairwise.nil).2 n
  simpa [numsF] using this
def opsL : List Int := [2, 3, 4, 6, 7]
/-- What the document tells. -/
def docU (e : List (Int × Int)) : List (Int × Int) := opsL.flatMap fun op => (numsF op e).map fun n => (op, n)
theorem docU_mem {e : List (Int × Int)} {x : Int × Int} : x ∈ docU e ↔ isU x.1 = true ∧ x ∈ e := by
  obtain ⟨op, n⟩ := x
  unfold docU isU opsL
  simp only [List.mem_flatMap, List.mem_map, decide_eq_true_iff]
  constructor
  · rintro ⟨o, ho, m, hm, e⟩
    injection e with e1 e2
    subst e1 e2
    refine ⟨?_, numsF_mem.1 hm⟩
    simpa using ho
  · rintro ⟨h1, h2⟩
    exact ⟨op, by simpa using h1, n, numsF_mem.2 h2, rfl⟩
theorem docU_asc (e : List (Int × Int)) : Asc (docU e) := by
  have one : ∀ op, Asc ((numsF op e).map fun n => (op, n)) := fun op => by
    unfold Asc
    rw [List.pairwise_map]
    exact (numsF_asc op e).imp (fun h => by rw [ltN_iff]; exact .inr ⟨rfl, h⟩)
  unfold docU Asc
  rw [List.pairwise_flatMap]
  refine ⟨fun op _ => one op, ?_⟩
  unfold opsL
  have st : ∀ a b : Int, a < b → ∀ x, x ∈ (numsF a e).map (fun n => (a, n)) → ∀ y, y ∈ (numsF b e).map (fun n => (b, n)) → ltN x y = true := fun a b hab x hx y hy => by
    obtain ⟨n, _, rfl⟩ := List.mem_map.1 hx
    obtain ⟨m, _, rfl⟩ := List.mem_map.1 hy
    rw [ltN_iff]
    exact .inl hab
  have asc : ([2, 3, 4, 6, 7] : List Int).Pairwise (· < ·) := by decide
  exact asc.imp (fun h => st _ _ h)
/-- A sorted row of the same nodes, cut to one of each, is what the document tells. -/
theorem uses_same {e : List (Int × Int)} {d : Array (Int × Int)} (hs : SortedIn ltN 0 d.size d) (hp : ∀ x, x ∈ d.toList ↔ isU x.1 = true ∧ x ∈ e) : compactUpTo d d.size = docU e := by
  obtain ⟨h1, h2, h3, _⟩ := compact_asc hs d.size (Nat.le_refl _)
  refine asc_unique h1 (docU_asc e) (fun x => ?_)
  rw [docU_mem, ← hp]
  constructor
  · intro hx
    obtain ⟨j, hj, rfl⟩ := h2 x hx
    rw [getElem!_pos d j hj]
    simp
  · intro hx
    obtain ⟨j, hj, e⟩ := List.getElem_of_mem hx
    have hj' : j < d.size := by simpa using hj
    have := h3 j hj'
    rw [getElem!_pos d j hj'] at this
    rw [← e]
    simpa using this
end Go.Proofs.Ytgbnafakaaooiaa.us
