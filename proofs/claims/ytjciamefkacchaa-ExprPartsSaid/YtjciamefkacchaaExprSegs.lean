/- Expressions, plain: each part of what is worked off is worked off by itself. Nothing here speaks of the program. -/
import Derived.Test.YtjciamefkacchaaExprSpansPure
namespace Go.Proofs.Ytjciamefkacchaa

/-- The stack behind nodes, if none of them fails. -/
def runSt (f : Int × Int → List Int → Int × Int) (most : Int) : List (Int × Int) → List Int → Option (List Int)
  | [], st => some st
  | nd :: e, st =>
    if takesZ nd.1 < 0 then none else if (st.length : Int) < takesZ nd.1 then none else
    if (f nd (st.drop (st.length - (takesZ nd.1).toNat))).2 ≠ 0 then none else
    if most < (st.take (st.length - (takesZ nd.1).toNat) ++ [(f nd (st.drop (st.length - (takesZ nd.1).toNat))).1]).length then none else runSt f most e (st.take (st.length - (takesZ nd.1).toNat) ++ [(f nd (st.drop (st.length - (takesZ nd.1).toNat))).1])

theorem runSt_cons (f : Int × Int → List Int → Int × Int) (most : Int) (nd : Int × Int) (e : List (Int × Int)) (st : List Int) : runSt f most (nd :: e) st =
    if takesZ nd.1 < 0 then none else if (st.length : Int) < takesZ nd.1 then none else
    if (f nd (st.drop (st.length - (takesZ nd.1).toNat))).2 ≠ 0 then none else
    if most < (st.take (st.length - (takesZ nd.1).toNat) ++ [(f nd (st.drop (st.length - (takesZ nd.1).toNat))).1]).length then none else runSt f most e (st.take (st.length - (takesZ nd.1).toNat) ++ [(f nd (st.drop (st.length - (takesZ nd.1).toNat))).1]) := rfl
theorem runSt_append {f : Int × Int → List Int → Int × Int} {most : Int} : ∀ {a b : List (Int × Int)} {st st1 : List Int}, runSt f most a st = some st1 → runSt f most (a ++ b) st = runSt f most b st1
  | [], b, st, st1, h => by
    injection h with h
    subst h
    rfl
  | nd :: a, b, st, st1, h => by
    rw [List.cons_append, runSt_cons]
    rw [runSt_cons] at h
    split at h
    · cases h
    · next h1 =>
      split at h
      · cases h
      · next h2 =>
        split at h
        · cases h
        · next h3 =>
          split at h
          · cases h
          · next h4 =>
            rw [if_neg h1, if_neg h2, if_neg h3, if_neg h4]
            exact runSt_append h
/-- Working off, told by the stack. -/
theorem runF_of_runSt {f : Int × Int → List Int → Int × Int} {most : Int} {x : Int} : ∀ {e : List (Int × Int)} {k : Nat} {st : List Int}, runSt f most e st = some [x] → runF (fun _ => f) most k e st = (x, 0)
  | [], k, st, h => by
    injection h with h
    subst h
    rfl
  | nd :: e, k, st, h => by
    rw [runSt_cons] at h
    unfold runF
    split at h
    · cases h
    · next h1 =>
      split at h
      · cases h
      · next h2 =>
        split at h
        · cases h
        · next h3 =>
          split at h
          · cases h
          · next h4 =>
            rw [if_neg h1, if_neg h2]
            simp only [if_neg h3, if_neg h4]
            exact runF_of_runSt h
theorem runSt_of_runF {f : Int × Int → List Int → Int × Int} {most : Int} : ∀ {e : List (Int × Int)} {k : Nat} {st : List Int}, (runF (fun _ => f) most k e st).2 = 0 → ∃ x, runSt f most e st = some [x]
  | [], k, st, h => by
    rw [runF_end] at h
    split at h
    · cases h
    · next h0 =>
      split at h
      · cases h
      · next h1 =>
        match st, h0, h1 with
        | [], h0, _ => exact absurd rfl h0
        | [x], _, _ => exact ⟨x, rfl⟩
        | _ :: _ :: _, _, h1 => simp at h1
  | nd :: e, k, st, h => by
    unfold runF at h
    rw [runSt_cons]
    split at h
    · cases h
    · next h1 =>
      split at h
      · cases h
      · next h2 =>
        simp only at h
        split at h
        · next h3 => exact absurd h h3
        · next h3 =>
          split at h
          · cases h
          · next h4 =>
            rw [if_neg h1, if_neg h2, if_neg h3, if_neg h4]
            exact runSt_of_runF h

/-- The first k nodes are the parts side by side of which bs is the beginnings and ks what comes of them, each by itself. -/
inductive Seg (f : Int × Int → List Int → Int × Int) (most : Int) (e : List (Int × Int)) : Nat → List Int → List Int → Prop
  | nil : Seg f most e 0 [] []
  | snoc (i s : Nat) (bs ks : List Int) (x : Int) : s < i → i ≤ e.length → Seg f most e s bs ks → (∀ st, st.length ≤ ks.length → runSt f most ((e.drop s).take (i - s)) st = some (st ++ [x])) → Seg f most e i (bs ++ [(s : Int)]) (ks ++ [x])

theorem Seg.len {f : Int × Int → List Int → Int × Int} {most : Int} {e : List (Int × Int)} {i : Nat} {bs ks : List Int} (h : Seg f most e i bs ks) : bs.length = ks.length := by
  induction h with
  | nil => rfl
  | snoc i s bs ks x _ _ _ _ ih => simp [ih]
theorem Seg.le {f : Int × Int → List Int → Int × Int} {most : Int} {e : List (Int × Int)} {i : Nat} {bs ks : List Int} (h : Seg f most e i bs ks) : i ≤ e.length := by
  cases h with
  | nil => exact Nat.zero_le _
  | snoc _ s bs ks x _ h _ _ => exact h
theorem Seg.pop {f : Int × Int → List Int → Int × Int} {most : Int} {e : List (Int × Int)} {i : Nat} {bs ks : List Int} (h : Seg f most e i bs ks) (hl : 0 < ks.length) : ∃ (s : Nat) (bs' ks' : List Int) (x : Int), bs = bs' ++ [(s : Int)] ∧ ks = ks' ++ [x] ∧ s < i ∧ Seg f most e s bs' ks' ∧
    ∀ st, st.length ≤ ks'.length → runSt f most ((e.drop s).take (i - s)) st = some (st ++ [x]) := by
  cases h with
  | nil => simp at hl
  | snoc _ s bs ks x h1 _ h3 h4 => exact ⟨s, bs, ks, x, rfl, rfl, h1, h3, h4⟩

theorem take_drop_join {α : Type} (e : List α) {s i k : Nat} (h1 : s ≤ i) (h2 : i ≤ k) : (e.drop s).take (k - s) = (e.drop s).take (i - s) ++ (e.drop i).take (k - i) := by
  rw [show k - s = (i - s) + (k - i) by omega, List.take_add, List.drop_drop, show s + (i - s) = i by omega]
theorem take_one {e : List (Int × Int)} {k : Nat} (h : k < e.length) : (e.drop k).take (k + 1 - k) = [e.getD k (0, 0)] := by
  rw [drop_at (0, 0) h, show k + 1 - k = 1 by omega]
  rfl

theorem run_one {f : Int × Int → List Int → Int × Int} {most : Int} {nd : Int × Int} {st ps : List Int} {v : Int} {t : Nat} (ht : takesZ nd.1 = t) (hp : ps.length = t) (hf : f nd ps = (v, 0)) (hm : (st.length : Int) + 1 ≤ most) : runSt f most [nd] (st ++ ps) = some (st ++ [v]) := by
  rw [runSt_cons]
  have e1 : (st ++ ps).length - (takesZ nd.1).toNat = st.length := by rw [ht]; simp; omega
  rw [if_neg (by omega), if_neg (by rw [ht]; simp; omega)]
  rw [e1, List.drop_left, List.take_left, hf, if_neg (by simp), if_neg (by simp; omega)]
  rfl

/-- One node more. -/
theorem Seg.step {f : Int × Int → List Int → Int × Int} {most : Int} {e : List (Int × Int)} {k t : Nat} {bs ks : List Int} {v : Int} (h : Seg f most e k bs ks) (hk : k < e.length) (ht : takesZ (e.getD k (0, 0)).1 = t) (hl : t ≤ ks.length)
    (hf : f (e.getD k (0, 0)) (ks.drop (ks.length - t)) = (v, 0)) (hm : ((ks.length - t : Nat) : Int) + 1 ≤ most) :
    ∃ s : Nat, s ≤ k ∧ (if t = 0 then (k : Int) else bs.getD (bs.length - t) 0) = s ∧ Seg f most e (k + 1) (bs.take (bs.length - t) ++ [(s : Int)]) (ks.take (ks.length - t) ++ [v]) ∧ runSt f most ((e.drop s).take (k + 1 - s)) [] = some [v] := by
  have hr := takesZ_range (e.getD k (0, 0)).1
  have hlen := h.len
  have hc : t = 0 ∨ t = 1 ∨ t = 2 := by omega
  rcases hc with rfl | rfl | rfl
  · simp only [Nat.sub_zero, List.drop_length, List.take_length] at hf hm ⊢
    have hrun : ∀ st : List Int, st.length ≤ ks.length → runSt f most ((e.drop k).take (k + 1 - k)) st = some (st ++ [v]) := fun st hs => by
      rw [take_one hk]
      have := run_one (most := most) (st := st) (ps := []) (t := 0) ht rfl hf (by omega)
      rwa [List.append_nil] at this
    exact ⟨k, Nat.le_refl _, by simp, .snoc _ _ _ _ _ (by omega) hk h hrun, by simpa using hrun [] (by simp)⟩
  · obtain ⟨s, bs', ks', x, rfl, rfl, h1, h2, h3⟩ := h.pop (by omega)
    have e1 : (ks' ++ [x]).length - 1 = ks'.length := by simp
    have e2 : (bs' ++ [(s : Int)]).length - 1 = bs'.length := by simp
    rw [e1, List.drop_left] at hf
    rw [e1] at hm
    rw [e1, e2, List.take_left, List.take_left]
    have hrun : ∀ st : List Int, st.length ≤ ks'.length → runSt f most ((e.drop s).take (k + 1 - s)) st = some (st ++ [v]) := fun st hs => by
      rw [take_drop_join e (show s ≤ k by omega) (show k ≤ k + 1 by omega), runSt_append (h3 st hs), take_one hk]
      exact run_one ht rfl hf (by omega)
    exact ⟨s, by omega, by simp [List.getD], .snoc _ _ _ _ _ (by omega) hk h2 hrun, by simpa using hrun [] (by simp)⟩
  · obtain ⟨s1, bs1, ks1, y, rfl, rfl, h1, h2, h3⟩ := h.pop (by omega)
    obtain ⟨s, bs', ks', x, rfl, rfl, g1, g2, g3⟩ := h2.pop (by simp at hl; omega)
    have e1 : (ks' ++ [x] ++ [y]).length - 2 = ks'.length := by simp
    have e2 : (bs' ++ [(s : Int)] ++ [(s1 : Int)]).length - 2 = bs'.length := by simp
    rw [e1, List.append_assoc, List.drop_left] at hf
    rw [e1] at hm
    rw [e1, e2, List.append_assoc, List.append_assoc, List.take_left, List.take_left]
    have hrun : ∀ st : List Int, st.length ≤ ks'.length → runSt f most ((e.drop s).take (k + 1 - s)) st = some (st ++ [v]) := fun st hs => by
      rw [take_drop_join e (show s ≤ s1 by omega) (show s1 ≤ k + 1 by omega), runSt_append (g3 st hs), take_drop_join e (show s1 ≤ k by omega) (show k ≤ k + 1 by omega), runSt_append (h3 (st ++ [x]) (by simp; omega)), take_one hk, List.append_assoc]
      exact run_one ht rfl hf (by omega)
    exact ⟨s, by omega, by simp [List.getD], .snoc _ _ _ _ _ (by omega) hk g2 hrun, by simpa using hrun [] (by simp)⟩

/-- All of the run, node by node: the stack behind the first k nodes, the beginnings, and each part by itself. -/
structure Told (f : Int × Int → List Int → Int × Int) (most : Int) (e : List (Int × Int)) (k : Nat) (S : Sp) (ks : List Int) : Prop where
  sp : spAt e k = some S
  seg : Seg f most e k S.st ks
  part : ∀ i, i < k → ∃ (s : Nat) (x : Int), S.out.getD i 0 = s ∧ s ≤ i ∧ runSt f most ((e.drop s).take (i + 1 - s)) [] = some [x]
theorem told_run {f : Int × Int → List Int → Int × Int} {most : Int} {e : List (Int × Int)} : ∀ (n k : Nat) (S : Sp) (ks : List Int) (x : Int), n = e.length - k → k ≤ e.length → Told f most e k S ks → runSt f most (e.drop k) ks = some [x] → ∃ S', Told f most e e.length S' [x]
  | 0, k, S, ks, x, hn, hk, h, hr => by
    obtain rfl : k = e.length := by omega
    rw [List.drop_length] at hr
    injection hr with hr
    subst hr
    exact ⟨S, h⟩
  | n + 1, k, S, ks, x, hn, hk, h, hr => by
    have hlt : k < e.length := by omega
    rw [drop_at (0, 0) hlt] at hr
    rw [runSt_cons] at hr
    split at hr
    · cases hr
    · next h1 =>
      split at hr
      · cases hr
      · next h2 =>
        split at hr
        · cases hr
        · next h3 =>
          split at hr
          · cases hr
          · next h4 =>
            obtain ⟨t, ht⟩ : ∃ t : Nat, takesZ (e.getD k (0, 0)).1 = t := ⟨(takesZ (e.getD k (0, 0)).1).toNat, by omega⟩
            rw [ht, Int.toNat_natCast] at h3 h4 hr
            have htl : t ≤ ks.length := by omega
            obtain ⟨v, w, hv⟩ : ∃ v w, f (e.getD k (0, 0)) (ks.drop (ks.length - t)) = (v, w) := ⟨_, _, rfl⟩
            rw [hv] at h3 h4 hr
            have hw : w = 0 := by simpa using h3
            subst hw
            have hlen := h.seg.len
            obtain ⟨s, s1, s2, s3, s4⟩ := h.seg.step hlt ht htl hv (by simp at h4; omega)
            obtain ⟨o1, o2, o3⟩ := spAt_ok h.sp
            have hsp := spAt_next h.sp ht (by omega)
            have hs : (spF k (e.getD k (0, 0)) (S.st.drop (S.st.length - t))).1 = (s : Int) := by
              rw [← s2]
              unfold spF
              by_cases h0 : t = 0
              · subst h0; simp
              · rw [if_neg h0, if_pos (by simp; omega)]
                simp [List.getD]
            rw [hs] at hsp
            refine told_run n (k + 1) _ _ x (by omega) hlt ⟨hsp, s3, fun i hi => ?_⟩ hr
            by_cases hik : i = k
            · subst hik
              exact ⟨s, v, by simp [List.getD, o1], s1, s4⟩
            · obtain ⟨s', x', p1, p2, p3⟩ := h.part i (by omega)
              refine ⟨s', x', ?_, p2, p3⟩
              rw [← p1]
              simp [List.getD, List.getElem?_append_left (show i < S.out.length by omega)]
/-- What is worked off is one part: its beginnings, and each part by itself. -/
theorem spans_of_run {f : Int × Int → List Int → Int × Int} {most : Int} {e : List (Int × Int)} {x : Int} (h : runSt f most e [] = some [x]) : ∃ l, spansF e = some l ∧ l.length = e.length ∧ 0 < e.length ∧ l.getD (e.length - 1) 0 = 0 ∧ l.getD 0 0 = 0 ∧
    ∀ i, i < e.length → ∃ (s : Nat) (y : Int), l.getD i 0 = s ∧ s ≤ i ∧ runSt f most ((e.drop s).take (i + 1 - s)) [] = some [y] := by
  obtain ⟨S, hT⟩ := told_run (f := f) (most := most) (e := e) e.length 0 ⟨[], []⟩ [] x (by omega) (Nat.zero_le _) ⟨rfl, .nil, fun i hi => absurd hi (Nat.not_lt_zero _)⟩ (by simpa using h)
  obtain ⟨o1, o2, o3⟩ := spAt_ok hT.sp
  have hl := hT.seg.len
  simp at hl
  have he : 0 < e.length := by omega
  have hf : spansF e = some S.out := by unfold spansF; rw [hT.sp]; simp only [hl]; rfl
  obtain ⟨s, st', e1, g1, g2, g3⟩ := o2.pos he
  have h0 : st' = [] := by
    rw [e1] at hl
    simp at hl
    exact hl
  subst h0
  have hs0 : s = 0 := by
    rcases Nat.eq_zero_or_pos s with h | h
    · exact h
    · obtain ⟨_, _, e2, _⟩ := g3.pos h
      simp at e2
  subst hs0
  obtain ⟨s', y, p1, p2, p3⟩ := hT.part 0 he
  exact ⟨S.out, hf, o1, he, g2, by rw [p1]; omega, hT.part⟩
end Go.Proofs.Ytjciamefkacchaa
