/- Which parts are still to be asked for, node by node: plain. Nothing here speaks of the program. -/
import Derived.Test.YtophajljjnjcdaaWdPure
namespace Go.Proofs.Ytophajljjnjcdaa.wd
open lt nf

/-- A node of a formula: how many parts, and where they begin. -/
theorem node_cases {e : List (Int × Int)} (h : wrF 0 e = 0) {i : Nat} (hi : i < e.length) :
    (kT (e.getD i (0, 0)).1 = 0 ∧ (outF e e.length).getD i 0 = (i : Int)) ∨
    (∃ j v : Nat, i = j + 1 ∧ v ≤ j ∧ kT (e.getD i (0, 0)).1 = 1 ∧ (outF e e.length).getD i 0 = (v : Int) ∧ (outF e e.length).getD j 0 = (v : Int)) ∨
    (∃ j q v : Nat, i = j + 1 ∧ q < j ∧ v ≤ q ∧ kT (e.getD i (0, 0)).1 = 2 ∧ (outF e e.length).getD i 0 = (v : Int) ∧ (outF e e.length).getD j 0 = ((q + 1 : Nat) : Int)) := by
  obtain ⟨hk, _⟩ := kinds_of h hi
  rcases whole_of h hi with ⟨g1, g2⟩ | ⟨j, v, rfl, g2, g3, g4, g5⟩ | ⟨j, q, v, rfl, g2, g3, g4, g5, g6, g7⟩
  · refine .inl ⟨?_, g2⟩
    rcases hk with ⟨h6, _⟩ | ⟨_, _, h6⟩ | ⟨_, h6⟩
    · exact h6
    · rw [g1] at h6; exact absurd rfl h6
    · rw [g1] at h6; exact absurd rfl h6
  · refine .inr (.inl ⟨j, v, rfl, g2, ?_, g4, g5⟩)
    rcases hk with ⟨_, h6⟩ | ⟨h6, _⟩ | ⟨_, h6⟩
    · rw [g3] at h6; injection h6 with h7 _; omega
    · exact h6
    · rw [g3] at h6; exact absurd rfl h6
  · refine .inr (.inr ⟨j, q, v, rfl, g2, g3, ?_, g5, g7⟩)
    rcases hk with ⟨_, h6⟩ | ⟨_, h6, _⟩ | ⟨h6, _⟩
    · rw [g4] at h6; injection h6 with h7 _; omega
    · rw [g4] at h6; simp only at h6; omega
    · exact h6
theorem Pt.lt' {out : List Int} {i : Nat} {st : List Int} (h : Pt out i st) : ∀ x ∈ st, 0 ≤ x ∧ x < (i : Int) := by
  induction h with
  | nil => exact fun x hx => absurd hx (by simp)
  | snoc i s st h1 h2 h3 _ ih =>
    intro x hx
    rcases List.mem_append.1 hx with hx | hx
    · have := ih x hx
      omega
    · have : x = (i : Int) := by simpa using hx
      omega
/-- What is told of the part that ends with a node. -/
def trJ (e : List (Int × Int)) (B sets : List Int) (s j : Nat) : List Bool := (trF e B sets s (j + 1)).getD j []
theorem trJ_keep (e : List (Int × Int)) (B sets : List Int) (s : Nat) {j k : Nat} (h : j < k) : (trF e B sets s k).getD j [] = trJ e B sets s j := trF_keep e B sets s h
/-- Is what is told of a part kept? -/
def kpF (all : Bool) (st : List Int) (j : Nat) : Prop := all = true ∨ (j : Int) ∈ st
/-- How a node's parts lie, ahead of node i: where own's cases lead. -/
def OwnC (B : List Int) (i len : Nat) (L : List Int) : Prop :=
  (len = 0 ∧ L = [] ∧ B.getD i 0 = (i : Int)) ∨ (∃ j v : Nat, i = j + 1 ∧ v ≤ j ∧ len = 1 ∧ L = [(j : Int)] ∧ B.getD (j + 1) 0 = (v : Int) ∧ B.getD j 0 = (v : Int)) ∨
  (∃ j q v : Nat, i = j + 1 ∧ q < j ∧ v ≤ q ∧ len = 2 ∧ L = [(j : Int), (q : Int)] ∧ B.getD (j + 1) 0 = (v : Int) ∧ B.getD j 0 = ((q + 1 : Nat) : Int))
structure NodeS (all : Bool) (e : List (Int × Int)) (B sets : List Int) (s i len : Nat) (L st st' : List Int) (a b : List Bool) (p0 p1 : Nat) : Prop where
  own : OwnC B i len L
  len2 : len ≤ 2 ∧ len = L.length
  at0 : 1 ≤ len → L.getD 0 0 = (p0 : Int) ∧ p0 < i ∧ kpF all st p0
  at1 : 2 ≤ len → L.getD 1 0 = (p1 : Int) ∧ p1 < i ∧ kpF all st p1 ∧ p1 ≠ p0
  tr : trJ e B sets s i = plF (e.getD i (0, 0)) sets s a b
  kk : kT (e.getD i (0, 0)).1 = (len : Int)
  r1 : len = 1 → trJ e B sets s p0 = a
  r2 : len = 2 → trJ e B sets s p0 = b ∧ trJ e B sets s p1 = a
  ok : Ok e (i + 1) st'
  keep : ∀ j : Nat, j < i → kpF all st' j → kpF all st j ∧ (all = true ∨ (1 ≤ len → j ≠ p0) ∧ (2 ≤ len → j ≠ p1))
  last : (i : Int) ∈ st'
theorem node_step (all : Bool) {e : List (Int × Int)} (h : wrF 0 e = 0) (sets : List Int) (s : Nat) {i : Nat} (hi : i < e.length) {st : List Int} (hok : Ok e i st) :
    ∃ len L st' a b p0 p1, NodeS all e (outF e e.length) sets s i len L st st' a b p0 p1 := by
  obtain ⟨st2, hok2, hnd2⟩ := Ok.of_is h i (by omega)
  obtain rfl := hok.uniq hok2
  have hnd := hnd2 hi
  obtain ⟨k1, k2, _⟩ := ndW_ok hnd
  have hr := kT_range (e.getD i (0, 0)).1
  have hnx := hok.next hi hnd
  have hB : ∀ x, x < i → (outF e e.length).getD x 0 = (outF e i).getD x 0 := fun x hx => outF_take e hx (by omega)
  obtain ⟨s0, s1, _, s3, s4, s5, s6⟩ := hok.1.takes (t := (kT (e.getD i (0, 0)).1).toNat) (by omega) (by omega)
  have hlast : trJ e (outF e e.length) sets s i = plF (e.getD i (0, 0)) sets s (if kT (e.getD i (0, 0)).1 = 0 then [] else if kT (e.getD i (0, 0)).1 = 1 then (trF e (outF e e.length) sets s i).getD (i - 1) [] else (trF e (outF e e.length) sets s i).getD (((outF e e.length).getD (i - 1) 0).toNat - 1) []) (if kT (e.getD i (0, 0)).1 = 2 then (trF e (outF e e.length) sets s i).getD (i - 1) [] else []) := trF_last e _ sets s i
  have hkeep : ∀ j : Nat, j < i → (j : Int) ∈ st.take (st.length - (kT (e.getD i (0, 0)).1).toNat) ++ [(i : Int)] → (j : Int) ∈ st ∧ j < s0 := fun j hj hm => by
    rcases List.mem_append.1 hm with hm | hm
    · have h9 := (Pt.lt' s3) _ hm
      exact ⟨List.mem_of_mem_take hm, by omega⟩
    · have : (j : Int) = (i : Int) := by simpa using hm
      omega
  rcases node_cases h hi with ⟨g1, g2⟩ | ⟨j, v, rfl, g2, g3, g4, g5⟩ | ⟨j, q, v, rfl, g2, g3, g4, g5, g6⟩
  · refine ⟨0, [], _, [], [], 0, 0, ⟨.inl ⟨rfl, rfl, g2⟩, ⟨by omega, rfl⟩, fun h => by omega, fun h => by omega, ?_, g1, fun h => by omega, fun h => by omega, hnx, fun j hj hk => ?_, by simp⟩⟩
    · rw [hlast, if_pos g1, if_neg (by omega)]
    · rcases hk with hk | hk
      · exact ⟨.inl hk, .inl hk⟩
      · exact ⟨.inr (hkeep j hj hk).1, .inr ⟨fun h => by omega, fun h => by omega⟩⟩
  · have ht : (kT (e.getD (j + 1) (0, 0)).1).toNat = 1 := by omega
    rw [ht] at s3 s5 hkeep hnx
    obtain ⟨_, q2, q3, q4⟩ := s5 rfl
    have hmem : ((j : Nat) : Int) ∈ st := by
      have : ((j : Nat) : Int) ∈ st.drop (st.length - 1) := by rw [q3]; simp
      exact List.mem_of_mem_drop this
    have hsv : s0 ≤ j := by omega
    refine ⟨1, [(j : Int)], _, trJ e (outF e e.length) sets s j, [], j, 0, ⟨.inr (.inl ⟨j, v, rfl, g2, rfl, rfl, g4, g5⟩), ⟨by omega, rfl⟩, fun _ => ⟨rfl, by omega, .inr hmem⟩, fun h => by omega, ?_, by rw [g3]; rfl, fun _ => rfl, fun h => by omega, hnx, fun k hk hm => ?_, by simp⟩⟩
    · rw [hlast, if_neg (by omega), if_pos g3, if_neg (by omega), Nat.add_sub_cancel, trJ_keep _ _ _ _ (by omega)]
    · rcases hm with hm | hm
      · exact ⟨.inl hm, .inl hm⟩
      · obtain ⟨m1, m2⟩ := hkeep k hk hm
        exact ⟨.inr m1, .inr ⟨fun _ => by omega, fun h => by omega⟩⟩
  · have ht : (kT (e.getD (j + 1) (0, 0)).1).toNat = 2 := by omega
    rw [ht] at s3 s6 hkeep hnx
    obtain ⟨r, q1, q2, q3, q4, q5, _⟩ := s6 rfl
    have e1 : r = q + 1 := by
      have := hB j (by omega)
      rw [g6] at this
      simp only [Nat.add_sub_cancel] at q5
      omega
    subst e1
    have hmem : ((j : Nat) : Int) ∈ st := by
      have : ((j : Nat) : Int) ∈ st.drop (st.length - 2) := by rw [q4]; simp
      exact List.mem_of_mem_drop this
    have hmem2 : ((q : Nat) : Int) ∈ st := by
      have : ((q : Nat) : Int) ∈ st.drop (st.length - 2) := by rw [q4]; simp
      exact List.mem_of_mem_drop this
    refine ⟨2, [(j : Int), (q : Int)], _, trJ e (outF e e.length) sets s q, trJ e (outF e e.length) sets s j, j, q, ⟨.inr (.inr ⟨j, q, v, rfl, g2, g3, rfl, rfl, g5, g6⟩), ⟨by omega, rfl⟩, fun _ => ⟨rfl, by omega, .inr hmem⟩, fun _ => ⟨rfl, by omega, .inr hmem2, by omega⟩, ?_, by rw [g4]; rfl, fun h => by omega, fun _ => ⟨rfl, rfl⟩, hnx, fun k hk hm => ?_, by simp⟩⟩
    · rw [hlast, if_neg (by omega), if_neg (by omega), if_pos g4, Nat.add_sub_cancel, g6, Int.toNat_natCast, Nat.add_sub_cancel, trJ_keep _ _ _ _ (by omega), trJ_keep _ _ _ _ (by omega)]
    · rcases hm with hm | hm
      · exact ⟨.inl hm, .inl hm⟩
      · obtain ⟨m1, m2⟩ := hkeep k hk hm
        exact ⟨.inr m1, .inr ⟨fun _ => by omega, fun _ => by omega⟩⟩
theorem tr_len {e : List (Int × Int)} (h : wrF 0 e = 0) (sets : List Int) (s : Nat) {j : Nat} (hj : j < e.length) : (trJ e (outF e e.length) sets s j).length = sets.length := by
  obtain ⟨v, hv⟩ : ∃ v : Nat, (outF e e.length).getD j 0 = (v : Int) := by
    rcases node_cases h hj with ⟨_, g⟩ | ⟨_, v, _, _, _, g, _⟩ | ⟨_, _, v, _, _, _, _, g, _⟩
    · exact ⟨_, g⟩
    · exact ⟨_, g⟩
    · exact ⟨_, g⟩
  obtain ⟨t, h1, h2, h3⟩ := at_ex h j v hj hv
  have := tr_sem e (outF e e.length) sets s t v h1 h3 (j + 1) (by omega)
  rw [h2, Nat.add_sub_cancel] at this
  unfold trJ
  rw [this, sem_len sets s t h3]
end Go.Proofs.Ytophajljjnjcdaa.wd
