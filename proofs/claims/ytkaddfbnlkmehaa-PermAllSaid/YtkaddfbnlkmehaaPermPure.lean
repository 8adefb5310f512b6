/- Permutations as lists of numbers: plain facts. Nothing here speaks of the program. -/
import Derived.Test.YtkaddfbnlkmehaaBase
namespace Go.Proofs.Ytkaddfbnlkmehaa

theorem nd_len {α : Type} [BEq α] [LawfulBEq α] : ∀ (l m : List α), l.Nodup → (∀ x ∈ l, x ∈ m) → l.length ≤ m.length
  | [], _, _, _ => Nat.zero_le _
  | a :: t, m, hn, hs => by
    have ha : a ∈ m := hs a (by simp)
    have h := nd_len t (m.erase a) (List.nodup_cons.1 hn).2 (fun x hx => (List.mem_erase_of_ne (fun e : x = a => (List.nodup_cons.1 hn).1 (by rw [← e]; exact hx))).2 (hs x (by simp [hx])))
    rw [List.length_erase_of_mem ha] at h
    have := List.length_pos_of_mem ha
    simp; omega
theorem nd_perm {α : Type} [BEq α] [LawfulBEq α] : ∀ (l m : List α), l.Nodup → (∀ x ∈ l, x ∈ m) → l.length = m.length → l.Perm m
  | [], m, _, _, h => by
    obtain rfl : m = [] := List.eq_nil_of_length_eq_zero h.symm
    exact List.Perm.refl _
  | a :: t, m, hn, hs, hl => by
    have ha : a ∈ m := hs a (by simp)
    have hp := List.length_pos_of_mem ha
    have h := nd_perm t (m.erase a) (List.nodup_cons.1 hn).2 (fun x hx => (List.mem_erase_of_ne (fun e : x = a => (List.nodup_cons.1 hn).1 (by rw [← e]; exact hx))).2 (hs x (by simp [hx]))) (by rw [List.length_erase_of_mem ha]; simp at hl; omega)
    exact (h.cons a).trans (List.perm_cons_erase ha).symm

/-- The numbers from 0 to below n, rising. -/
def ups (n : Nat) : List Int := (List.range n).map fun i : Nat => (i : Int)
theorem ups_length (n : Nat) : (ups n).length = n := by simp [ups]
theorem ups_mem {n : Nat} {x : Int} : x ∈ ups n ↔ 0 ≤ x ∧ x < n := by
  unfold ups
  rw [List.mem_map]
  constructor
  · rintro ⟨a, h, rfl⟩
    have := List.mem_range.1 h
    omega
  · intro h
    exact ⟨x.toNat, List.mem_range.2 (by omega), by omega⟩
theorem ups_nodup (n : Nat) : (ups n).Nodup := by
  unfold ups
  refine List.pairwise_map.2 ((List.nodup_range (n := n)).imp ?_)
  intro a b h
  omega
theorem ups_getD {n i : Nat} (h : i < n) : (ups n).getD i 0 = i := by simp [ups, List.getD, h]
theorem ups_succ (n : Nat) : ups (n + 1) = ups n ++ [(n : Int)] := by simp [ups, List.range_succ]

/-- The document's Check. -/
def chk (p : List Int) : Bool := decide (p.length ≤ 8 ∧ ∀ i : Nat, i < p.length → (i : Int) ∈ p)
structure Prm (p : List Int) : Prop where
  len : p.length ≤ 8
  nd : p.Nodup
  rg : ∀ x ∈ p, 0 ≤ x ∧ x < p.length
theorem Prm.perm {p : List Int} (h : Prm p) : p.Perm (ups p.length) := nd_perm _ _ h.nd (fun x hx => ups_mem.2 (h.rg x hx)) (ups_length _).symm
theorem prm_of_perm {p : List Int} {n : Nat} (hn : n ≤ 8) (h : p.Perm (ups n)) : Prm p := by
  have e : p.length = n := by rw [h.length_eq, ups_length]
  exact ⟨by omega, h.nodup_iff.2 (ups_nodup _), fun x hx => by rw [e]; exact ups_mem.1 (h.mem_iff.1 hx)⟩
theorem chk_iff {p : List Int} : chk p = true ↔ Prm p := by
  unfold chk
  rw [decide_eq_true_iff]
  constructor
  · rintro ⟨h1, h2⟩
    refine prm_of_perm h1 (nd_perm _ _ (ups_nodup _) (fun x hx => ?_) (ups_length _)).symm
    have := ups_mem.1 hx
    have h3 := h2 x.toNat (by omega)
    rwa [show ((x.toNat : Nat) : Int) = x by omega] at h3
  · intro h
    exact ⟨h.len, fun i hi => h.perm.mem_iff.2 (ups_mem.2 (by omega))⟩
theorem Prm.at_ {p : List Int} (h : Prm p) {i : Nat} (hi : i < p.length) : 0 ≤ p.getD i 0 ∧ p.getD i 0 < p.length := by
  have e : p.getD i 0 = p[i] := by simp [List.getD, hi]
  rw [e]
  exact h.rg _ (List.getElem_mem hi)
theorem nodup_at {p : List Int} (h : p.Nodup) {k : Nat} (hk : k < p.length) : p.getD k 0 ∉ p.take k := by
  have h1 : (p.take (k + 1)).Nodup := h.sublist (List.take_sublist _ _)
  have e : p.take (k + 1) = p.take k ++ [p.getD k 0] := by
    rw [List.take_succ_eq_append_getElem hk]; simp [List.getD, hk]
  rw [e] at h1
  intro hm
  exact (List.nodup_append.1 h1).2.2 _ hm _ (by simp) rfl
theorem take_next {p : List Int} {k : Nat} (hk : k < p.length) : p.take (k + 1) = p.take k ++ [p.getD k 0] := by
  rw [List.take_succ_eq_append_getElem hk]; simp [List.getD, hk]

/-- First a, then b. -/
def mulL (a b : List Int) : List Int := a.map fun x => b.getD x.toNat 0
def mulF (a b : List Int) : List Int := if a.length = b.length ∧ chk a = true ∧ chk b = true then mulL a b else []
def idF (n : Int) : List Int := if 0 ≤ n ∧ n ≤ 8 then ups n.toNat else []
/-- At each place what goes there. -/
def moveL (p l : List Int) : List Int := (List.range l.length).map fun i : Nat => l.getD (p.idxOf (i : Int)) 0
def moveF (p l : List Int) : List Int := if p.length = l.length ∧ chk p = true then moveL p l else []
def invL (p : List Int) : List Int := (List.range p.length).map fun i : Nat => (p.idxOf (i : Int) : Int)
def invF (p : List Int) : List Int := if chk p = true then invL p else []

theorem Prm.mem {p : List Int} (h : Prm p) {i : Nat} (hi : i < p.length) : (i : Int) ∈ p := h.perm.mem_iff.2 (ups_mem.2 (by omega))
theorem Prm.idx_lt {p : List Int} (h : Prm p) {i : Nat} (hi : i < p.length) : p.idxOf (i : Int) < p.length := List.idxOf_lt_length_of_mem (h.mem hi)
theorem idx_getD {p : List Int} {x : Int} (h : x ∈ p) : p.getD (p.idxOf x) 0 = x := by
  have h1 := List.idxOf_lt_length_of_mem h
  simp [List.getD, h1]
theorem nodup_getD_inj {p : List Int} (h : p.Nodup) {i j : Nat} (hi : i < p.length) (hj : j < p.length) (e : p.getD i 0 = p.getD j 0) : i = j := by
  rcases Nat.lt_trichotomy i j with hl | hl | hl
  · exfalso
    refine nodup_at h hj (e ▸ ?_)
    have : p.getD i 0 = (p.take j)[i]'(by rw [List.length_take]; omega) := by simp [List.getD, hi]
    rw [this]; exact List.getElem_mem _
  · exact hl
  · exfalso
    refine nodup_at h hi (e ▸ ?_)
    have : p.getD j 0 = (p.take i)[j]'(by rw [List.length_take]; omega) := by simp [List.getD, hj]
    rw [this]; exact List.getElem_mem _
theorem Prm.idx_at {p : List Int} (h : Prm p) {k : Nat} (hk : k < p.length) : p.idxOf (p.getD k 0) = k := by
  have hm : p.getD k 0 ∈ p := by
    have e : p.getD k 0 = p[k] := by simp [List.getD, hk]
    rw [e]; exact List.getElem_mem hk
  exact nodup_getD_inj h.nd (List.idxOf_lt_length_of_mem hm) hk (idx_getD hm)
theorem move_id {p : List Int} : moveF p (idF p.length) = invF p := by
  unfold moveF invF
  by_cases hc : chk p = true
  · have h := chk_iff.1 hc
    have hl := h.len
    have e : idF p.length = ups p.length := by unfold idF; rw [if_pos (by omega)]; simp
    rw [if_pos hc, e, if_pos ⟨(ups_length _).symm, hc⟩]
    unfold moveL invL
    rw [ups_length]
    refine List.map_congr_left fun i hi => ?_
    exact ups_getD (h.idx_lt (List.mem_range.1 hi))
  · rw [if_neg hc, if_neg (fun h => hc h.2)]
theorem mulL_length (a b : List Int) : (mulL a b).length = a.length := by simp [mulL]
theorem moveL_length (p l : List Int) : (moveL p l).length = l.length := by simp [moveL]
theorem invL_length (p : List Int) : (invL p).length = p.length := by simp [invL]
theorem getD_map {α : Type} (f : α → Int) (l : List α) (d : α) {i : Nat} (h : i < l.length) : (l.map f).getD i 0 = f (l.getD i d) := by simp [List.getD, h]
theorem mulL_at {a b : List Int} {i : Nat} (h : i < a.length) : (mulL a b).getD i 0 = b.getD (a.getD i 0).toNat 0 := getD_map _ a 0 h
theorem moveL_at {p l : List Int} {i : Nat} (h : i < l.length) : (moveL p l).getD i 0 = l.getD (p.idxOf (i : Int)) 0 := by simp [moveL, List.getD, h]
theorem invL_at {p : List Int} {i : Nat} (h : i < p.length) : (invL p).getD i 0 = (p.idxOf (i : Int) : Int) := by simp [invL, List.getD, h]
theorem ext_getD {a b : List Int} (hl : a.length = b.length) (h : ∀ i, i < a.length → a.getD i 0 = b.getD i 0) : a = b := by
  apply List.ext_getElem hl
  intro i h1 h2
  have := h i h1
  simpa [List.getD, h1, h2] using this
/-- A list is a permutation if its numbers are in range and no two are the same. -/
theorem prm_of_inj {p : List Int} (hl : p.length ≤ 8) (hr : ∀ i, i < p.length → 0 ≤ p.getD i 0 ∧ p.getD i 0 < p.length) (hi : ∀ i j, i < p.length → j < p.length → p.getD i 0 = p.getD j 0 → i = j) : Prm p := by
  refine ⟨hl, ?_, fun x hx => ?_⟩
  · refine List.pairwise_iff_getElem.2 fun i j h1 h2 hij e => ?_
    have := hi i j h1 h2 (by simp [List.getD, h1, h2, e])
    omega
  · obtain ⟨i, h1, rfl⟩ := List.getElem_of_mem hx
    have := hr i h1
    simpa [List.getD, h1] using this
theorem Prm.mul {a b : List Int} (ha : Prm a) (hb : Prm b) (hl : a.length = b.length) : Prm (mulL a b) := by
  refine prm_of_inj (by rw [mulL_length]; exact ha.len) (fun i hi => ?_) (fun i j hi hj e => ?_)
  · rw [mulL_length] at hi ⊢
    rw [mulL_at hi]
    have := ha.at_ hi
    have := hb.at_ (i := (a.getD i 0).toNat) (by omega)
    omega
  · rw [mulL_length] at hi hj
    rw [mulL_at hi, mulL_at hj] at e
    have h1 := ha.at_ hi
    have h2 := ha.at_ hj
    have h3 := nodup_getD_inj hb.nd (by omega) (by omega) e
    exact nodup_getD_inj ha.nd hi hj (by omega)
theorem Prm.inv {p : List Int} (h : Prm p) : Prm (invL p) := by
  refine prm_of_inj (by rw [invL_length]; exact h.len) (fun i hi => ?_) (fun i j hi hj e => ?_)
  · rw [invL_length] at hi ⊢
    rw [invL_at hi]
    have := h.idx_lt hi
    omega
  · rw [invL_length] at hi hj
    rw [invL_at hi, invL_at hj] at e
    have e2 : p.idxOf (i : Int) = p.idxOf (j : Int) := by omega
    have h1 := idx_getD (h.mem hi)
    have h2 := idx_getD (h.mem hj)
    rw [e2] at h1
    omega
theorem prm_ups {n : Nat} (h : n ≤ 8) : Prm (ups n) := prm_of_perm h (List.Perm.refl _)

/-- Groups. -/
theorem mul_inv {a : List Int} (h : Prm a) : mulL a (invL a) = ups a.length := by
  refine ext_getD (by rw [mulL_length, ups_length]) fun i hi => ?_
  rw [mulL_length] at hi
  have h1 := h.at_ hi
  rw [mulL_at hi, invL_at (by omega), ups_getD hi, show (((a.getD i 0).toNat : Nat) : Int) = a.getD i 0 by omega, h.idx_at hi]
theorem inv_mul {a : List Int} (h : Prm a) : mulL (invL a) a = ups a.length := by
  refine ext_getD (by rw [mulL_length, invL_length, ups_length]) fun i hi => ?_
  rw [mulL_length, invL_length] at hi
  have h1 := h.idx_lt hi
  rw [mulL_at (by rw [invL_length]; exact hi), invL_at hi, ups_getD hi]
  exact idx_getD (h.mem hi)
theorem mul_assoc' {a b c : List Int} (ha : Prm a) (h1 : a.length = b.length) : mulL (mulL a b) c = mulL a (mulL b c) := by
  refine ext_getD (by simp [mulL_length]) fun i hi => ?_
  rw [mulL_length, mulL_length] at hi
  have := ha.at_ hi
  rw [mulL_at (by rw [mulL_length]; exact hi), mulL_at hi, mulL_at hi, mulL_at (by omega)]
theorem move_mul {a b l : List Int} (ha : Prm a) (hb : Prm b) (h1 : a.length = b.length) (h2 : l.length = a.length) : moveL (mulL a b) l = moveL b (moveL a l) := by
  refine ext_getD (by simp [moveL_length]) fun i hi => ?_
  rw [moveL_length] at hi
  have hm := ha.mul hb h1
  have hib : i < b.length := by omega
  have k1 := hb.idx_lt hib
  have k2 := ha.idx_lt (i := b.idxOf (i : Int)) (by omega)
  rw [moveL_at hi, moveL_at (by rw [moveL_length]; exact hi), moveL_at (by omega)]
  have e : (mulL a b).getD (a.idxOf ((b.idxOf (i : Int) : Nat) : Int)) 0 = i := by
    rw [mulL_at k2, idx_getD (ha.mem (by omega))]
    exact idx_getD (hb.mem hib)
  have := hm.idx_at (k := a.idxOf ((b.idxOf (i : Int) : Nat) : Int)) (by rw [mulL_length]; exact k2)
  rw [e] at this
  rw [this]
end Go.Proofs.Ytkaddfbnlkmehaa
