/- Rank and Unrank there and back, and their order: plain numbers. -/
import Derived.Test.YtbdlbljjbigjkaaUnrank
import Derived.Test.YtbdlbljjbigjkaaRefRank
namespace Go.Proofs.Ytbdlbljjbigjkaa

theorem rankGo_bd : ∀ (ds bs : List Int) (m r : Int), 0 ≤ m → m ≤ 1048576 → rankGo m ds bs = some r → 0 ≤ r ∧ r ≤ 1048576
  | [], _, m, r, h1, h2, h => by rw [rankGo] at h; injection h with h; subst h; exact ⟨h1, h2⟩; simp
  | _ :: _, [], m, r, h1, h2, h => by rw [rankGo] at h; injection h with h; subst h; exact ⟨h1, h2⟩; simp
  | d :: ds, b :: bs, m, r, h1, h2, h => by
    rw [rankGo] at h
    cases hf : further m d b with
    | none => rw [hf] at h; cases h
    | some m' =>
      rw [hf] at h
      have s := further_some_spec h1 hf
      exact rankGo_bd ds bs m' r (by omega) (by omega) h

theorem unr_of_rank : ∀ (ds bs : List Int) (m r : Int), ds.length = bs.length → 0 ≤ m → rankGo m ds bs = some r → unr r bs = some (m, ds)
  | [], [], m, r, _, _, h => by rw [rankGo] at h; injection h with h; subst h; rfl; simp
  | [], _ :: _, _, _, hl, _, _ => by simp at hl
  | _ :: _, [], _, _, hl, _, _ => by simp at hl
  | d :: ds, b :: bs, m, r, hl, h1, h => by
    rw [rankGo] at h
    cases hf : further m d b with
    | none => rw [hf] at h; cases h
    | some m' =>
      rw [hf] at h
      obtain ⟨s1, s2, s3, s4, s5, s6, s7, rfl⟩ := further_some_spec h1 hf
      have ih := unr_of_rank ds bs _ r (by simpa using hl) (by omega) h
      have e1 : (m * b + d) / b = m := by
        rw [Int.add_comm, Int.add_mul_ediv_right _ _ (by omega), Int.ediv_eq_zero_of_lt s2 s3, Int.zero_add]
      have e2 : (m * b + d) % b = d := by
        rw [Int.add_comm, Int.add_mul_emod_self_right, Int.emod_eq_of_lt s2 s3]
      rw [unr, ih]
      simp only [Option.bind_some]
      rw [if_neg (by omega), e1, e2]

theorem unrankF_of_rank {ds bs : List Int} {r : Int} (h : rankF ds bs = some r) : unrankF r bs = some ds ∧ 0 ≤ r ∧ r ≤ 1048576 := by
  unfold rankF at h
  by_cases hl : ds.length = bs.length
  · rw [if_pos hl] at h
    have hb := rankGo_bd ds bs 0 r (by omega) (by omega) h
    have hu := unr_of_rank ds bs 0 r hl (by omega) h
    refine ⟨?_, hb⟩
    unfold unrankF
    rw [if_pos hb, hu]
    rfl
  · rw [if_neg hl] at h; cases h

theorem unr_bd {n : Int} (h0 : 0 ≤ n) : ∀ (bs : List Int) (p : Int × List Int), unr n bs = some p → 0 ≤ p.1 ∧ p.1 ≤ n
  | [], p, h => by rw [unr] at h; injection h with h; subst h; exact ⟨h0, Int.le_refl _⟩
  | b :: bs, p, h => by
    rw [unr] at h
    cases hu : unr n bs with
    | none => rw [hu] at h; cases h
    | some q =>
      rw [hu] at h
      simp only [Option.bind_some] at h
      have ih := unr_bd h0 bs q hu
      split at h
      · cases h
      · injection h with h; subst h
        have h1 := Int.ediv_nonneg ih.1 (show 0 ≤ b by omega)
        have h2 := Int.ediv_le_self b ih.1
        exact ⟨h1, by show q.1 / b ≤ n; omega⟩

theorem rank_of_unr {n : Int} (h0 : 0 ≤ n) (h1 : n ≤ 1048576) : ∀ (bs : List Int) (p : Int × List Int), unr n bs = some p → rankGo p.1 p.2 bs = some n
  | [], p, h => by rw [unr] at h; injection h with h; subst h; rfl
  | b :: bs, p, h => by
    rw [unr] at h
    cases hu : unr n bs with
    | none => rw [hu] at h; cases h
    | some q =>
      rw [hu] at h
      simp only [Option.bind_some] at h
      have ih := rank_of_unr h0 h1 bs q hu
      have hb := unr_bd h0 bs q hu
      split at h
      · cases h
      · rename_i hb1
        injection h with h; subst h
        show rankGo (q.1 / b) (q.1 % b :: q.2) (b :: bs) = some n
        have g1 := Int.emod_nonneg q.1 (show b ≠ 0 by omega)
        have g2 := Int.emod_lt_of_pos q.1 (show 0 < b by omega)
        have g3 := Int.ediv_mul_add_emod q.1 b
        have hf : further (q.1 / b) (q.1 % b) b = some q.1 := by
          unfold further
          rw [if_neg (by omega), if_neg, if_neg (by omega), g3]
          intro hh
          have := Int.le_ediv_of_mul_le hh.1 (show b * (q.1 / b) ≤ 1048576 by rw [Int.mul_comm]; omega)
          omega
        rw [rankGo, hf]
        exact ih

theorem rankF_of_unrank {n : Int} {bs ds : List Int} (h : unrankF n bs = some ds) : rankF ds bs = some n ∧ ds.length = bs.length := by
  unfold unrankF at h
  by_cases h0 : 0 ≤ n ∧ n ≤ 1048576
  · rw [if_pos h0] at h
    cases hu : unr n bs with
    | none => rw [hu] at h; cases h
    | some p =>
      rw [hu] at h
      simp only [Option.bind_some] at h
      split at h
      · rename_i hp
        injection h with h; subst h
        have hl := unr_length n bs p hu
        refine ⟨?_, hl⟩
        unfold rankF
        rw [if_pos hl, ← hp]
        exact rank_of_unr h0.1 h0.2 bs p hu
      · cases h
  · rw [if_neg h0] at h; cases h

theorem unr_w64 {n : Int} (h0 : 0 ≤ n) (h1 : n ≤ 1048576) : ∀ (bs : List Int) (p : Int × List Int), unr n bs = some p → W64 p.2
  | [], p, h => by rw [unr] at h; injection h with h; subst h; intro z hz; simp at hz
  | b :: bs, p, h => by
    rw [unr] at h
    cases hu : unr n bs with
    | none => rw [hu] at h; cases h
    | some q =>
      rw [hu] at h
      simp only [Option.bind_some] at h
      have ih := unr_w64 h0 h1 bs q hu
      have hb := unr_bd h0 bs q hu
      split at h
      · cases h
      · injection h with h; subst h
        intro z hz
        simp only [List.mem_cons] at hz
        rcases hz with rfl | hz
        · have g1 := Int.emod_nonneg q.1 (show b ≠ 0 by omega)
          have g2 := Int.ediv_nonneg hb.1 (show 0 ≤ b by omega)
          have g3 := Int.ediv_mul_add_emod q.1 b
          have g4 := Int.mul_nonneg g2 (show 0 ≤ b by omega)
          omega
        · exact ih z hz
theorem unrankF_w64 {n : Int} {bs ds : List Int} (h : unrankF n bs = some ds) : W64 ds := by
  unfold unrankF at h
  by_cases h0 : 0 ≤ n ∧ n ≤ 1048576
  · rw [if_pos h0] at h
    cases hu : unr n bs with
    | none => rw [hu] at h; cases h
    | some p =>
      rw [hu] at h
      simp only [Option.bind_some] at h
      split at h
      · injection h with h; subst h
        exact unr_w64 h0.1 h0.2 bs p hu
      · cases h
  · rw [if_neg h0] at h; cases h

theorem rankGo_lt : ∀ (ds es bs : List Int) (m m' r r' : Int), ds.length = bs.length → es.length = bs.length → 0 ≤ m → m < m' → rankGo m ds bs = some r → rankGo m' es bs = some r' → r < r'
  | [], [], [], m, m', r, r', _, _, _, h, h1, h2 => by
    rw [rankGo] at h1 h2 <;> try (simp; done)
    injection h1 with h1; injection h2 with h2; omega
  | [], _, _ :: _, _, _, _, _, h, _, _, _, _, _ => by simp at h
  | _ :: _, _, [], _, _, _, _, h, _, _, _, _, _ => by simp at h
  | _, _ :: _, [], _, _, _, _, _, h, _, _, _, _ => by simp at h
  | _, [], _ :: _, _, _, _, _, _, h, _, _, _, _ => by simp at h
  | d :: ds, e :: es, b :: bs, m, m', r, r', hl1, hl2, h0, h, h1, h2 => by
    rw [rankGo] at h1 h2
    cases hf : further m d b with
    | none => rw [hf] at h1; cases h1
    | some k =>
      cases hg : further m' e b with
      | none => rw [hg] at h2; cases h2
      | some k' =>
        rw [hf] at h1
        rw [hg] at h2
        have s := further_some_spec h0 hf
        have t := further_some_spec (by omega) hg
        have hm : (m + 1) * b ≤ m' * b := Int.mul_le_mul_of_nonneg_right (by omega) (by omega)
        rw [Int.add_mul, Int.one_mul] at hm
        exact rankGo_lt ds es bs k k' r r' (by simpa using hl1) (by simpa using hl2) (by omega) (by omega) h1 h2

theorem rankGo_first : ∀ (ds es bs : List Int) (m r r' : Int) (i : Nat), ds.length = bs.length → es.length = bs.length → 0 ≤ m → rankGo m ds bs = some r → rankGo m es bs = some r' →
    i < bs.length → (∀ j, j < i → ds.getD j 0 = es.getD j 0) → ds.getD i 0 < es.getD i 0 → r < r'
  | [], _, [], _, _, _, _, _, _, _, _, _, h, _, _ => by simp at h
  | [], _, _ :: _, _, _, _, _, h, _, _, _, _, _, _, _ => by simp at h
  | _ :: _, _, [], _, _, _, _, h, _, _, _, _, _, _, _ => by simp at h
  | _, [], _ :: _, _, _, _, _, _, h, _, _, _, _, _, _ => by simp at h
  | d :: ds, e :: es, b :: bs, m, r, r', i, hl1, hl2, h0, h1, h2, hi, ha, hlt => by
    rw [rankGo] at h1 h2
    cases hf : further m d b with
    | none => rw [hf] at h1; cases h1
    | some k =>
      cases hg : further m e b with
      | none => rw [hg] at h2; cases h2
      | some k' =>
        rw [hf] at h1
        rw [hg] at h2
        have s := further_some_spec h0 hf
        have t := further_some_spec h0 hg
        cases i with
        | zero =>
          have hlt' : d < e := hlt
          exact rankGo_lt ds es bs k k' r r' (by simpa using hl1) (by simpa using hl2) (by omega) (by omega) h1 h2
        | succ i =>
          have he : d = e := ha 0 (by omega)
          subst he
          have hk : k = k' := by rw [hf] at hg; injection hg
          subst hk
          exact rankGo_first ds es bs k r r' i (by simpa using hl1) (by simpa using hl2) (by omega) h1 h2 (by simpa using hi) (fun j hj => ha (j + 1) (by omega)) hlt

theorem rankF_first {ds es bs : List Int} {r r' : Int} {i : Nat} (h1 : rankF ds bs = some r) (h2 : rankF es bs = some r') (hi : i < ds.length) (ha : ∀ j, j < i → ds.getD j 0 = es.getD j 0) (hlt : ds.getD i 0 < es.getD i 0) : r < r' := by
  unfold rankF at h1 h2
  by_cases hl1 : ds.length = bs.length
  · by_cases hl2 : es.length = bs.length
    · rw [if_pos hl1] at h1
      rw [if_pos hl2] at h2
      exact rankGo_first ds es bs 0 r r' i hl1 hl2 (by omega) h1 h2 (by omega) ha hlt
    · rw [if_neg hl2] at h2; cases h2
  · rw [if_neg hl1] at h1; cases h1
theorem rankF_length {ds bs : List Int} {r : Int} (h : rankF ds bs = some r) : ds.length = bs.length := by
  unfold rankF at h
  by_cases hl : ds.length = bs.length
  · exact hl
  · rw [if_neg hl] at h; cases h
end Go.Proofs.Ytbdlbljjbigjkaa
