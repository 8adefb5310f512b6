/- Truth on a lasso's places, plain; a form is true where its formula is. Nothing here speaks of the program. -/
import Derived.Test.YtophajljjnjcdaaNnfTree
namespace Go.Proofs.Ytophajljjnjcdaa.nf
open lt

def nxt (loop n i : Nat) : Nat := if i + 1 < n then i + 1 else loop
/-- Is an until met, going on from a place? -/
def untA (a b : List Bool) (loop n : Nat) : Nat → Nat → Bool
  | 0, _ => false
  | f + 1, i => if b.getD i false = true then true else if a.getD i false = true then untA a b loop n f (nxt loop n i) else false
def untF (a b : List Bool) (loop : Nat) : List Bool := (List.range a.length).map fun i => untA a b loop a.length (a.length + 1) i
def flipF (a : List Bool) : List Bool := a.map (!·)
def yesF (n : Nat) : List Bool := List.replicate n true
/-- Is a bit set? -/
def bitF (s q : Int) : Bool := decide (s.toNat / 2 ^ q.toNat % 2 = 1)
/-- At one place, by its parts' truth: what is no until. -/
def oneF (x : Int × Int) (sets : List Int) (loop : Nat) (a b : List Bool) (i : Nat) : Bool :=
  if x.1 = 1 then true else if x.1 = 3 then bitF (sets.getD i 0) x.2 else if x.1 = 4 then !(a.getD i false) else if x.1 = 8 then a.getD (nxt loop sets.length i) false
  else if x.1 = 5 then a.getD i false && b.getD i false else if x.1 = 6 then a.getD i false || b.getD i false else if x.1 = 7 then !(a.getD i false) || b.getD i false else false
def plF (x : Int × Int) (sets : List Int) (loop : Nat) (a b : List Bool) : List Bool :=
  if x.1 = 9 then untF a b loop else if x.1 = 10 then flipF (untF (flipF a) (flipF b) loop) else if x.1 = 11 then untF (yesF sets.length) a loop
  else if x.1 = 12 then flipF (untF (yesF sets.length) (flipF a) loop) else (List.range sets.length).map (oneF x sets loop a b)
def semF (sets : List Int) (loop : Nat) : Tr → List Bool
  | .lf x => plF x sets loop [] []
  | .un x t => plF x sets loop (semF sets loop t) []
  | .bi x l r => plF x sets loop (semF sets loop l) (semF sets loop r)
theorem flip_len (a : List Bool) : (flipF a).length = a.length := by simp [flipF]
theorem unt_len (a b : List Bool) (loop : Nat) : (untF a b loop).length = a.length := by simp [untF]
theorem flip_flip (a : List Bool) : flipF (flipF a) = a := by
  unfold flipF
  rw [List.map_map]
  have : ((fun x => !x) ∘ fun x => !x) = (id : Bool → Bool) := by funext x; simp
  rw [this, List.map_id]
theorem flip_get {a : List Bool} {i : Nat} (h : i < a.length) : (flipF a).getD i false = !(a.getD i false) := by
  simp [flipF, List.getD, h]
theorem flip_range {a : List Bool} {n : Nat} (h : a.length = n) : flipF a = (List.range n).map fun i => !(a.getD i false) := by
  apply List.ext_getElem (by rw [flip_len]; simp [h])
  intro i h1 h2
  rw [flip_len] at h1
  simp [flipF, List.getD, h1]
theorem range_flip {n : Nat} {f g : Nat → Bool} (h : ∀ i, i < n → f i = !(g i)) : (List.range n).map f = flipF ((List.range n).map g) := by
  unfold flipF
  rw [List.map_map]
  apply List.map_congr_left
  intro i hi
  exact h i (List.mem_range.1 hi)
theorem yes_range (n : Nat) : (List.range n).map (fun _ => true) = yesF n := by
  unfold yesF
  apply List.ext_getElem (by simp)
  intro i h1 h2
  simp
theorem nxt_lt {loop n i : Nat} (hl : loop < n) : nxt loop n i < n := by
  unfold nxt
  split
  · assumption
  · exact hl
theorem pl_one {x : Int × Int} {sets : List Int} {loop : Nat} {a b : List Bool} (h : x.1 ≠ 9 ∧ x.1 ≠ 10 ∧ x.1 ≠ 11 ∧ x.1 ≠ 12) : plF x sets loop a b = (List.range sets.length).map (oneF x sets loop a b) := by
  unfold plF
  rw [if_neg h.1, if_neg h.2.1, if_neg h.2.2.1, if_neg h.2.2.2]
theorem sem_len (sets : List Int) (loop : Nat) : ∀ t, Wf t → (semF sets loop t).length = sets.length
  | .lf x, h => by
    rw [semF, pl_one (by rcases kT_cases x.1 with ⟨_, h2⟩ | ⟨h2, _⟩ | ⟨h2, _⟩ | ⟨h2, _⟩ <;> (have := h.1; omega))]
    simp
  | .un x t, h => by
    obtain ⟨_, _, _, k4⟩ := kT1 h.1
    rw [semF]
    rcases k4 with h4 | h4 | h4 | h4
    · rw [pl_one (by omega)]; simp
    · rw [pl_one (by omega)]; simp
    · unfold plF
      rw [if_neg (by omega), if_neg (by omega), if_pos h4, unt_len]
      simp [yesF]
    · unfold plF
      rw [if_neg (by omega), if_neg (by omega), if_neg (by omega), if_pos h4, flip_len, unt_len]
      simp [yesF]
  | .bi x l r, h => by
    have ihl := sem_len sets loop l h.2.1
    rw [semF]
    by_cases h9 : x.1 = 9
    · unfold plF
      rw [if_pos h9, unt_len, ihl]
    · by_cases h10 : x.1 = 10
      · unfold plF
        rw [if_neg h9, if_pos h10, flip_len, unt_len, flip_len, ihl]
      · have : x.1 ≠ 11 ∧ x.1 ≠ 12 := by
          constructor
          · intro e; have := h.1; rw [e] at this; exact absurd this (by decide)
          · intro e; have := h.1; rw [e] at this; exact absurd this (by decide)
        rw [pl_one ⟨h9, h10, this.1, this.2⟩]
        simp
theorem sem_true (sets : List Int) (loop : Nat) (n : Int) : semF sets loop (.lf (1, n)) = yesF sets.length := by
  rw [semF, pl_one (by decide : (1 : Int) ≠ 9 ∧ (1 : Int) ≠ 10 ∧ (1 : Int) ≠ 11 ∧ (1 : Int) ≠ 12)]
  exact yes_range _
theorem sem_false (sets : List Int) (loop : Nat) (n : Int) : flipF (semF sets loop (.lf (2, n))) = yesF sets.length := by
  rw [semF, pl_one (by decide : (2 : Int) ≠ 9 ∧ (2 : Int) ≠ 10 ∧ (2 : Int) ≠ 11 ∧ (2 : Int) ≠ 12), ← yes_range, ← range_flip (f := fun _ => true)]
  intro i _
  rfl
/-- A form is true where its formula is, the negative one where it is not. -/
theorem sem_nf (sets : List Int) (loop : Nat) (hl : loop < sets.length) : ∀ (t : Tr) (ng : Bool), Wf t → semF sets loop (nfT t ng) = if ng = true then flipF (semF sets loop t) else semF sets loop t
  | .lf x, ng, h => by
    rw [nfT_lf]
    by_cases h3 : x.1 = 3
    · rw [if_pos h3]
      cases ng
      · rfl
      · show semF sets loop (.un (4, 0) (.lf x)) = flipF _
        have hlen := sem_len sets loop (.lf x) h
        rw [flip_range hlen]
        conv => lhs; rw [semF]
        rw [pl_one (by decide : (4 : Int) ≠ 9 ∧ (4 : Int) ≠ 10 ∧ (4 : Int) ≠ 11 ∧ (4 : Int) ≠ 12)]
        rfl
    · rw [if_neg h3]
      have h12 : x.1 = 1 ∨ x.1 = 2 := by rcases kT_cases x.1 with ⟨_, h2⟩ | ⟨h2, _⟩ | ⟨h2, _⟩ | ⟨h2, _⟩ <;> (have := h.1; omega)
      obtain ⟨x1, x2⟩ := x
      dsimp only at h12
      rcases h12 with rfl | rfl
      · cases ng
        · show semF sets loop (.lf (1, 0)) = semF sets loop (.lf (1, x2))
          rw [sem_true, sem_true]
        · show semF sets loop (.lf (2, 0)) = flipF (semF sets loop (.lf (1, x2)))
          rw [sem_true, ← sem_false sets loop 0, flip_flip]
      · cases ng
        · show semF sets loop (.lf (2, 0)) = semF sets loop (.lf (2, x2))
          rw [← flip_flip (semF sets loop (.lf (2, 0))), sem_false, ← sem_false sets loop x2, flip_flip]
        · show semF sets loop (.lf (1, 0)) = flipF (semF sets loop (.lf (2, x2)))
          rw [sem_true, sem_false]
  | .un x t, ng, h => by
    have ih := fun b => sem_nf sets loop hl t b h.2
    have hlen := sem_len sets loop t h.2
    obtain ⟨_, _, _, k4⟩ := kT1 h.1
    obtain ⟨x1, x2⟩ := x
    dsimp only at k4
    rcases k4 with rfl | rfl | rfl | rfl
    · have e4 : semF sets loop (.un (4, x2) t) = flipF (semF sets loop t) := by
        rw [flip_range hlen, semF, pl_one (by decide : (4 : Int) ≠ 9 ∧ (4 : Int) ≠ 10 ∧ (4 : Int) ≠ 11 ∧ (4 : Int) ≠ 12)]
        rfl
      show semF sets loop (nfT t (!ng)) = _
      rw [ih, e4, flip_flip]
      cases ng <;> rfl
    · show semF sets loop (.un (8, 0) (nfT t ng)) = _
      rw [semF, ih, semF, pl_one (by decide : (8 : Int) ≠ 9 ∧ (8 : Int) ≠ 10 ∧ (8 : Int) ≠ 11 ∧ (8 : Int) ≠ 12), pl_one (by decide : (8 : Int) ≠ 9 ∧ (8 : Int) ≠ 10 ∧ (8 : Int) ≠ 11 ∧ (8 : Int) ≠ 12)]
      cases ng
      · rfl
      · rw [if_pos rfl, if_pos rfl]
        refine range_flip (fun i hi => ?_)
        show (flipF (semF sets loop t)).getD (nxt loop sets.length i) false = !((semF sets loop t).getD (nxt loop sets.length i) false)
        exact flip_get (by rw [hlen]; exact nxt_lt hl)
    · have e0 : semF sets loop (.un (11, x2) t) = untF (yesF sets.length) (semF sets loop t) loop := rfl
      cases ng
      · show semF sets loop (.bi (9, 0) (.lf (1, 0)) (nfT t false)) = semF sets loop (.un (11, x2) t)
        have e1 : semF sets loop (.bi (9, 0) (.lf (1, 0)) (nfT t false)) = untF (semF sets loop (.lf (1, 0))) (semF sets loop (nfT t false)) loop := rfl
        rw [e1, e0, sem_true, ih, if_neg (by decide)]
      · show semF sets loop (.bi (10, 0) (.lf (2, 0)) (nfT t true)) = flipF (semF sets loop (.un (11, x2) t))
        have e1 : semF sets loop (.bi (10, 0) (.lf (2, 0)) (nfT t true)) = flipF (untF (flipF (semF sets loop (.lf (2, 0)))) (flipF (semF sets loop (nfT t true))) loop) := rfl
        rw [e1, e0, sem_false, ih, if_pos rfl, flip_flip]
    · have e0 : semF sets loop (.un (12, x2) t) = flipF (untF (yesF sets.length) (flipF (semF sets loop t)) loop) := rfl
      cases ng
      · show semF sets loop (.bi (10, 0) (.lf (2, 0)) (nfT t false)) = semF sets loop (.un (12, x2) t)
        have e1 : semF sets loop (.bi (10, 0) (.lf (2, 0)) (nfT t false)) = flipF (untF (flipF (semF sets loop (.lf (2, 0)))) (flipF (semF sets loop (nfT t false))) loop) := rfl
        rw [e1, e0, sem_false, ih, if_neg (by decide)]
      · show semF sets loop (.bi (9, 0) (.lf (1, 0)) (nfT t true)) = flipF (semF sets loop (.un (12, x2) t))
        have e1 : semF sets loop (.bi (9, 0) (.lf (1, 0)) (nfT t true)) = untF (semF sets loop (.lf (1, 0))) (semF sets loop (nfT t true)) loop := rfl
        rw [e1, e0, sem_true, ih, if_pos rfl, flip_flip]
  | .bi x l r, ng, h => by
    have ihl := fun b => sem_nf sets loop hl l b h.2.1
    have ihr := fun b => sem_nf sets loop hl r b h.2.2
    have hll := sem_len sets loop l h.2.1
    have hlr := sem_len sets loop r h.2.2
    have k2 : x.1 = 5 ∨ x.1 = 6 ∨ x.1 = 7 ∨ x.1 = 9 ∨ x.1 = 10 := by rcases kT_cases x.1 with ⟨h2, _⟩ | ⟨h2, _⟩ | ⟨_, h2⟩ | ⟨h2, _⟩ <;> (have := h.1; omega)
    obtain ⟨x1, x2⟩ := x
    dsimp only at k2
    have gl : ∀ i, i < sets.length → (flipF (semF sets loop l)).getD i false = !((semF sets loop l).getD i false) := fun i hi => flip_get (by rw [hll]; exact hi)
    have gr : ∀ i, i < sets.length → (flipF (semF sets loop r)).getD i false = !((semF sets loop r).getD i false) := fun i hi => flip_get (by rw [hlr]; exact hi)
    rcases k2 with rfl | rfl | rfl | rfl | rfl
    · cases ng
      · show semF sets loop (.bi (5, 0) (nfT l false) (nfT r false)) = semF sets loop (.bi (5, x2) l r)
        rw [semF, semF, ihl, ihr]
        rfl
      · show semF sets loop (.bi (6, 0) (nfT l true) (nfT r true)) = flipF (semF sets loop (.bi (5, x2) l r))
        rw [semF, semF, ihl, ihr, if_pos rfl, if_pos rfl]
        refine range_flip (fun i hi => ?_)
        show ((flipF (semF sets loop l)).getD i false || (flipF (semF sets loop r)).getD i false) = !((semF sets loop l).getD i false && (semF sets loop r).getD i false)
        rw [gl i hi, gr i hi, Bool.not_and]
    · cases ng
      · show semF sets loop (.bi (6, 0) (nfT l false) (nfT r false)) = semF sets loop (.bi (6, x2) l r)
        rw [semF, semF, ihl, ihr]
        rfl
      · show semF sets loop (.bi (5, 0) (nfT l true) (nfT r true)) = flipF (semF sets loop (.bi (6, x2) l r))
        rw [semF, semF, ihl, ihr, if_pos rfl, if_pos rfl]
        refine range_flip (fun i hi => ?_)
        show ((flipF (semF sets loop l)).getD i false && (flipF (semF sets loop r)).getD i false) = !((semF sets loop l).getD i false || (semF sets loop r).getD i false)
        rw [gl i hi, gr i hi, Bool.not_or]
    · cases ng
      · show semF sets loop (.bi (6, 0) (nfT l true) (nfT r false)) = semF sets loop (.bi (7, x2) l r)
        rw [semF, semF, ihl, ihr, if_pos rfl, if_neg (by decide)]
        refine List.map_congr_left (fun i hi => ?_)
        show ((flipF (semF sets loop l)).getD i false || (semF sets loop r).getD i false) = (!((semF sets loop l).getD i false) || (semF sets loop r).getD i false)
        rw [gl i (List.mem_range.1 hi)]
      · show semF sets loop (.bi (5, 0) (nfT l false) (nfT r true)) = flipF (semF sets loop (.bi (7, x2) l r))
        rw [semF, semF, ihl, ihr, if_pos rfl, if_neg (by decide)]
        refine range_flip (fun i hi => ?_)
        show ((semF sets loop l).getD i false && (flipF (semF sets loop r)).getD i false) = !(!((semF sets loop l).getD i false) || (semF sets loop r).getD i false)
        rw [gr i hi, Bool.not_or, Bool.not_not]
    · cases ng
      · show semF sets loop (.bi (9, 0) (nfT l false) (nfT r false)) = semF sets loop (.bi (9, x2) l r)
        rw [semF, semF, ihl, ihr]
        rfl
      · show semF sets loop (.bi (10, 0) (nfT l true) (nfT r true)) = flipF (semF sets loop (.bi (9, x2) l r))
        have e1 : semF sets loop (.bi (10, 0) (nfT l true) (nfT r true)) = flipF (untF (flipF (semF sets loop (nfT l true))) (flipF (semF sets loop (nfT r true))) loop) := rfl
        rw [e1, ihl, ihr, if_pos rfl, if_pos rfl, flip_flip, flip_flip]
        rfl
    · cases ng
      · show semF sets loop (.bi (10, 0) (nfT l false) (nfT r false)) = semF sets loop (.bi (10, x2) l r)
        rw [semF, semF, ihl, ihr]
        rfl
      · show semF sets loop (.bi (9, 0) (nfT l true) (nfT r true)) = flipF (semF sets loop (.bi (10, x2) l r))
        have e1 : semF sets loop (.bi (9, 0) (nfT l true) (nfT r true)) = untF (semF sets loop (nfT l true)) (semF sets loop (nfT r true)) loop := rfl
        have e2 : semF sets loop (.bi (10, x2) l r) = flipF (untF (flipF (semF sets loop l)) (flipF (semF sets loop r)) loop) := rfl
        rw [e1, e2, ihl, ihr, if_pos rfl, if_pos rfl, flip_flip]
/-- The truth of the first k parts. -/
def trF (e : List (Int × Int)) (B sets : List Int) (loop : Nat) : Nat → List (List Bool)
  | 0 => []
  | k + 1 => trF e B sets loop k ++ [plF (e.getD k (0, 0)) sets loop (if kT (e.getD k (0, 0)).1 = 0 then [] else if kT (e.getD k (0, 0)).1 = 1 then (trF e B sets loop k).getD (k - 1) [] else (trF e B sets loop k).getD ((B.getD (k - 1) 0).toNat - 1) []) (if kT (e.getD k (0, 0)).1 = 2 then (trF e B sets loop k).getD (k - 1) [] else [])]
theorem trF_len (e : List (Int × Int)) (B sets : List Int) (loop : Nat) : ∀ k, (trF e B sets loop k).length = k
  | 0 => rfl
  | k + 1 => by rw [trF, List.length_append, trF_len e B sets loop k]; rfl
theorem trF_keep (e : List (Int × Int)) (B sets : List Int) (loop : Nat) {i : Nat} : ∀ {k}, i < k → (trF e B sets loop k).getD i [] = (trF e B sets loop (i + 1)).getD i []
  | 0, h => by omega
  | k + 1, h => by
    by_cases hk : i = k
    · subst hk; rfl
    · rw [trF]
      simp only [List.getD]
      rw [List.getElem?_append_left (by rw [trF_len]; omega)]
      exact trF_keep e B sets loop (by omega)
theorem trF_last (e : List (Int × Int)) (B sets : List Int) (loop k : Nat) : (trF e B sets loop (k + 1)).getD k [] = plF (e.getD k (0, 0)) sets loop (if kT (e.getD k (0, 0)).1 = 0 then [] else if kT (e.getD k (0, 0)).1 = 1 then (trF e B sets loop k).getD (k - 1) [] else (trF e B sets loop k).getD ((B.getD (k - 1) 0).toNat - 1) []) (if kT (e.getD k (0, 0)).1 = 2 then (trF e B sets loop k).getD (k - 1) [] else []) := by
  rw [trF]
  simp only [List.getD]
  rw [List.getElem?_append_right (by rw [trF_len]; exact Nat.le_refl _), trF_len, Nat.sub_self]
  rfl
/-- What is told of a part's last node is the part's truth. -/
theorem tr_sem (e : List (Int × Int)) (B sets : List Int) (loop : Nat) : ∀ (t : Tr) (b : Nat), At e B t b → Wf t → ∀ k, b + sz t ≤ k → (trF e B sets loop k).getD (b + sz t - 1) [] = semF sets loop t
  | .lf x, b, h, hw, k, hk => by
    have hk : b + 1 ≤ k := hk
    show (trF e B sets loop k).getD b [] = _
    rw [trF_keep e B sets loop (by omega), trF_last, h.2.1, if_pos hw.1, if_neg (by rw [hw.1]; decide)]
    rfl
  | .un x t, b, h, hw, k, hk => by
    have hp := sz_pos t
    have hs : sz (.un x t) = sz t + 1 := rfl
    rw [hs] at hk ⊢
    rw [show b + (sz t + 1) - 1 = b + sz t by omega, trF_keep e B sets loop (by omega), trF_last, h.2.2.1, if_neg (by rw [hw.1]; decide), if_pos hw.1, if_neg (by rw [hw.1]; decide), tr_sem e B sets loop t b h.1 hw.2 _ (Nat.le_refl _)]
    rfl
  | .bi x l r, b, h, hw, k, hk => by
    have hpl := sz_pos l
    have hpr := sz_pos r
    have hs : sz (.bi x l r) = sz l + sz r + 1 := rfl
    obtain ⟨hL, hR, hlt, hx, hb⟩ := h
    rw [hs] at hk ⊢
    rw [show b + (sz l + sz r + 1) - 1 = b + sz l + sz r by omega, trF_keep e B sets loop (by omega), trF_last, hx, if_neg (by rw [hw.1]; decide), if_neg (by rw [hw.1]; decide), if_pos hw.1, hR.last.1, tr_sem e B sets loop r (b + sz l) hR hw.2.2 _ (Nat.le_refl _)]
    have e1 : ((b + sz l : Nat) : Int).toNat - 1 = b + sz l - 1 := by omega
    rw [e1, tr_sem e B sets loop l b hL hw.2.1 _ (by omega)]
    rfl
end Go.Proofs.Ytophajljjnjcdaa.nf
