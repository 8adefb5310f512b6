/- Negation normal form, plain: formulas as trees, what the writer does step by step, what it leaves. Nothing here speaks of the program. -/
import Derived.Test.YtophajljjnjcdaaLtlWholeP
namespace Go.Proofs.Ytophajljjnjcdaa.nf
open lt

/-- What the forms of an operation end with, and the constant that the positive one begins with. -/
def tabF : List (Int × Int × Int) := [(0, 0, 0), (1, 2, 0), (2, 1, 0), (0, 0, 0), (0, 0, 0), (5, 6, 0), (6, 5, 0), (6, 5, 0), (8, 8, 0), (9, 10, 0), (10, 9, 0), (9, 10, 1), (10, 9, 2)]
def sgF (op : Int) (ng : Bool) : Int := if ng = true then (tabF.getD op.toNat (0, 0, 0)).2.1 else (tabF.getD op.toNat (0, 0, 0)).1
def fiF (op : Int) : Int := (tabF.getD op.toNat (0, 0, 0)).2.2

inductive Tr where
  | lf (x : Int × Int)
  | un (x : Int × Int) (t : Tr)
  | bi (x : Int × Int) (l r : Tr)
/-- How many nodes; the nodes, one behind the other. -/
def sz : Tr → Nat
  | .lf _ => 1
  | .un _ t => sz t + 1
  | .bi _ l r => sz l + sz r + 1
def post : Tr → List (Int × Int)
  | .lf x => [x]
  | .un x t => post t ++ [x]
  | .bi x l r => post l ++ (post r ++ [x])
theorem post_len : ∀ t, (post t).length = sz t
  | .lf _ => rfl
  | .un _ t => by simp [post, sz, post_len t]
  | .bi _ l r => by simp [post, sz, post_len l, post_len r]; omega
theorem sz_pos : ∀ t, 0 < sz t
  | .lf _ => Nat.one_pos
  | .un _ _ => Nat.succ_pos _
  | .bi _ _ _ => Nat.succ_pos _
/-- The form of a tree: the negative one, or the positive one. -/
def nfT : Tr → Bool → Tr
  | .lf x, ng => if x.1 = 3 then (if ng = true then .un (4, 0) (.lf x) else .lf x) else .lf (sgF x.1 ng, 0)
  | .un x t, ng => if x.1 = 4 then nfT t (!ng) else if x.1 = 8 then .un (8, 0) (nfT t ng) else .bi (sgF x.1 ng, 0) (.lf (sgF (fiF x.1) ng, 0)) (nfT t ng)
  | .bi x l r, ng => if x.1 = 7 then .bi (sgF 7 ng, 0) (nfT l (!ng)) (nfT r ng) else .bi (sgF x.1 ng, 0) (nfT l ng) (nfT r ng)
theorem nfT_lf (x : Int × Int) (ng : Bool) : nfT (.lf x) ng = if x.1 = 3 then (if ng = true then .un (4, 0) (.lf x) else .lf x) else .lf (sgF x.1 ng, 0) := rfl
theorem nfT_un (x : Int × Int) (t : Tr) (ng : Bool) : nfT (.un x t) ng = if x.1 = 4 then nfT t (!ng) else if x.1 = 8 then .un (8, 0) (nfT t ng) else .bi (sgF x.1 ng, 0) (.lf (sgF (fiF x.1) ng, 0)) (nfT t ng) := rfl
theorem nfT_bi (x : Int × Int) (l r : Tr) (ng : Bool) : nfT (.bi x l r) ng = if x.1 = 7 then .bi (sgF 7 ng, 0) (nfT l (!ng)) (nfT r ng) else .bi (sgF x.1 ng, 0) (nfT l ng) (nfT r ng) := rfl
/-- A tree of nodes that may be. -/
def Wf : Tr → Prop
  | .lf x => kT x.1 = 0 ∧ (x.1 = 3 → 0 ≤ x.2 ∧ x.2 < 8)
  | .un x t => kT x.1 = 1 ∧ Wf t
  | .bi x l r => kT x.1 = 2 ∧ Wf l ∧ Wf r
/-- A tree stands behind b nodes. -/
def At (e : List (Int × Int)) (B : List Int) : Tr → Nat → Prop
  | .lf x, b => b < e.length ∧ e.getD b (0, 0) = x ∧ B.getD b 0 = (b : Int)
  | .un x t, b => At e B t b ∧ b + sz t < e.length ∧ e.getD (b + sz t) (0, 0) = x ∧ B.getD (b + sz t) 0 = (b : Int)
  | .bi x l r, b => At e B l b ∧ At e B r (b + sz l) ∧ b + sz l + sz r < e.length ∧ e.getD (b + sz l + sz r) (0, 0) = x ∧ B.getD (b + sz l + sz r) 0 = (b : Int)
theorem At.last {e : List (Int × Int)} {B : List Int} : ∀ {t : Tr} {b : Nat}, At e B t b → B.getD (b + sz t - 1) 0 = (b : Int) ∧ b + sz t ≤ e.length
  | .lf _, b, h => ⟨h.2.2, h.1⟩
  | .un _ t, b, h => ⟨by rw [sz, ← Nat.add_assoc, Nat.add_sub_cancel]; exact h.2.2.2, by rw [sz]; have := h.2.1; omega⟩
  | .bi _ l r, b, h => ⟨by rw [sz, ← Nat.add_assoc, Nat.add_sub_cancel, ← Nat.add_assoc]; exact h.2.2.2.2, by rw [sz]; have := h.2.2.1; omega⟩
theorem kinds_of {e : List (Int × Int)} (h : wrF 0 e = 0) {i : Nat} (hi : i < e.length) : (kT (e.getD i (0, 0)).1 = 0 ∧ kidsF e i = (-1, -1) ∨ kT (e.getD i (0, 0)).1 = 1 ∧ (kidsF e i).2 = -1 ∧ (kidsF e i).1 ≠ -1 ∨ kT (e.getD i (0, 0)).1 = 2 ∧ (kidsF e i).2 ≠ -1) ∧ ((e.getD i (0, 0)).1 = 3 → 0 ≤ (e.getD i (0, 0)).2 ∧ (e.getD i (0, 0)).2 < 8) := by
  obtain ⟨st, h1, h2⟩ := Ok.of_is h i (by omega)
  have h3 := ndW_ok (h2 hi)
  refine ⟨?_, h3.2.2⟩
  have hr := kT_range (e.getD i (0, 0)).1
  have hk : kidsF e i = prt e i := by
    rw [kidsF_is h]
    unfold kidsK
    rw [if_pos ⟨by omega, by omega⟩]
    simp
  have h4 := h1.1.len
  rw [hk]
  unfold prt
  by_cases h0 : kT (e.getD i (0, 0)).1 = 0
  · left; exact ⟨h0, by rw [if_neg (by omega), if_neg (by omega)]⟩
  · right
    by_cases h1' : kT (e.getD i (0, 0)).1 = 1
    · left; rw [if_pos h1']; exact ⟨h1', rfl, by simp only; omega⟩
    · right
      rw [if_neg h1', if_pos (by omega)]
      exact ⟨by omega, by simp only; omega⟩
/-- Each part of a formula is a tree that stands there. -/
theorem at_ex {e : List (Int × Int)} (h : wrF 0 e = 0) : ∀ (j v : Nat), j < e.length → (outF e e.length).getD j 0 = (v : Int) → ∃ t, At e (outF e e.length) t v ∧ v + sz t = j + 1 ∧ Wf t := by
  intro j
  induction j using Nat.strongRecOn with
  | _ j ih =>
    intro v hj hv
    obtain ⟨hk, hp⟩ := kinds_of h hj
    rcases whole_of h hj with ⟨g1, g2⟩ | ⟨i, v2, rfl, g2, g3, g4, g5⟩ | ⟨i, q, v2, rfl, g2, g3, g4, g5, g6, g7⟩
    · obtain rfl : v = j := by rw [g2] at hv; omega
      have h0 : kT (e.getD v (0, 0)).1 = 0 := by
        rcases hk with ⟨h6, _⟩ | ⟨_, _, h6⟩ | ⟨_, h6⟩
        · exact h6
        · rw [g1] at h6; exact absurd rfl h6
        · rw [g1] at h6; exact absurd rfl h6
      exact ⟨.lf (e.getD v (0, 0)), ⟨hj, rfl, hv⟩, rfl, h0, hp⟩
    · obtain rfl : v2 = v := by rw [g4] at hv; omega
      have h1 : kT (e.getD (i + 1) (0, 0)).1 = 1 := by
        rcases hk with ⟨_, h6⟩ | ⟨h6, _⟩ | ⟨_, h6⟩
        · rw [g3] at h6; injection h6 with h7 _; omega
        · exact h6
        · rw [g3] at h6; exact absurd rfl h6
      obtain ⟨t, t1, t2, t3⟩ := ih i (Nat.lt_succ_self _) v2 (by omega) g5
      refine ⟨.un (e.getD (i + 1) (0, 0)) t, ⟨t1, by omega, by rw [t2], by rw [t2]; exact hv⟩, ?_, h1, t3⟩
      rw [sz]; omega
    · obtain rfl : v2 = v := by rw [g5] at hv; omega
      have h2 : kT (e.getD (i + 1) (0, 0)).1 = 2 := by
        rcases hk with ⟨_, h6⟩ | ⟨_, h6, _⟩ | ⟨h6, _⟩
        · rw [g4] at h6; injection h6 with h7 _; omega
        · rw [g4] at h6; simp only at h6; omega
        · exact h6
      obtain ⟨l, l1, l2, l3⟩ := ih q (by omega) v2 (by omega) g6
      obtain ⟨r, r1, r2, r3⟩ := ih i (Nat.lt_succ_self _) (q + 1) (by omega) g7
      have e1 : v2 + sz l + sz r = i + 1 := by omega
      refine ⟨.bi (e.getD (i + 1) (0, 0)) l r, ⟨l1, by rw [l2]; exact r1, by omega, by rw [e1], by rw [e1]; exact hv⟩, ?_, h2, l3, r3⟩
      rw [sz]; omega
/-- A formula is a tree. -/
theorem tree_of {e : List (Int × Int)} (h : wrF 0 e = 0) : ∃ t, At e (outF e e.length) t 0 ∧ sz t = e.length ∧ Wf t := by
  obtain ⟨h1, h2⟩ := whole_last h
  obtain ⟨t, t1, t2, t3⟩ := at_ex h (e.length - 1) 0 (by omega) h2
  exact ⟨t, t1, by omega, t3⟩
theorem At.post {e : List (Int × Int)} {B : List Int} : ∀ {t : Tr} {b : Nat}, At e B t b → (e.drop b).take (sz t) = post t
  | .lf x, b, h => by
    rw [drop_nd h.1, h.2.1]
    rfl
  | .un x t, b, h => by
    rw [sz, List.take_add, At.post h.1, List.drop_drop, drop_nd h.2.1, h.2.2.1]
    rfl
  | .bi x l r, b, h => by
    have e1 : sz (.bi x l r) = sz l + (sz r + 1) := by rw [sz]; omega
    rw [e1, List.take_add, At.post h.1, List.drop_drop, List.take_add, At.post h.2.1, List.drop_drop, drop_nd h.2.2.1, h.2.2.2.1]
    rfl
theorem post_of {e : List (Int × Int)} {B : List Int} {t : Tr} (h : At e B t 0) (hs : sz t = e.length) : post t = e := by
  rw [← h.post, hs]
  simp
/-- Trees that may be are formulas. -/
theorem wr_post : ∀ (t : Tr), Wf t → ∀ (n : Nat) (rest : List (Int × Int)), wrF n (post t ++ rest) = wrF (n + 1) rest
  | .lf x, h, n, rest => by
    show wrF n (x :: rest) = _
    have h1 : kT x.1 = 0 := h.1
    have h2 : ndW n x = 0 := by
      unfold ndW
      rw [if_neg (by omega), if_neg (by omega), if_neg (fun q => by have := h.2 q.1; omega)]
    rw [wrF, if_neg (by rw [h2]; decide), h1]
    rfl
  | .un x t, h, n, rest => by
    have h1 : kT x.1 = 1 := h.1
    have h3 : x.1 ≠ 3 := fun q => by rw [q] at h1; exact absurd h1 (by decide)
    have h2 : ndW (n + 1) x = 0 := by
      unfold ndW
      rw [if_neg (by omega), if_neg (by omega), if_neg (fun q => h3 q.1)]
    rw [post, List.append_assoc, wr_post t h.2, List.singleton_append, wrF, if_neg (by rw [h2]; decide), h1]
    congr 1
  | .bi x l r, h, n, rest => by
    have h1 : kT x.1 = 2 := h.1
    have h3 : x.1 ≠ 3 := fun q => by rw [q] at h1; exact absurd h1 (by decide)
    have h2 : ndW (n + 1 + 1) x = 0 := by
      unfold ndW
      rw [if_neg (by omega), if_neg (by omega), if_neg (fun q => h3 q.1)]
    rw [post, List.append_assoc, wr_post l h.2.1, List.append_assoc, wr_post r h.2.2, List.singleton_append, wrF, if_neg (by rw [h2]; decide), h1]
    congr 1
theorem is_post {t : Tr} (h : Wf t) : wrF 0 (post t) = 0 := by
  have := wr_post t h 0 []
  rw [List.append_nil] at this
  rw [this]
  decide

/-- What the writer keeps. -/
structure St where
  ng : List Bool
  wt : List (Int × Int)
  w : List (Int × Int)
/-- The constants that begin at a place, the last one first, and the others. -/
def popR (b : Int) : List (Int × Int) → List (Int × Int) × List (Int × Int)
  | [] => ([], [])
  | x :: r => if x.2 = b then ((x.1, 0) :: (popR b r).1, (popR b r).2) else ([], x :: r)
theorem popR_no {b : Int} : ∀ {l : List (Int × Int)}, (∀ x ∈ l, x.2 < b) → popR b l = ([], l)
  | [], _ => rfl
  | x :: r, h => by rw [popR, if_neg (by have := h x (by simp); omega)]
def isBi (op : Int) : Bool := decide (op = 5 ∨ op = 6 ∨ op = 7 ∨ op = 9 ∨ op = 10)
def lefF (B : List Int) (j : Nat) : Nat := (B.getD (j - 1) 0 - 1).toNat
/-- The flags behind write. -/
def ngW (B : List Int) (op : Int) (S : St) (j : Nat) : List Bool :=
  let ng := S.ng.getD j false
  let n1 := if op = 7 then S.ng.set (lefF B j) true else S.ng
  if isBi op = true then (n1.set (lefF B j) (n1.getD (lefF B j) false != ng)).set (j - 1) ng
  else if op = 8 ∨ op = 11 ∨ op = 12 then S.ng.set (j - 1) ng
  else if op = 4 then S.ng.set (j - 1) (!ng) else S.ng
/-- What write writes. -/
def outW (x : Int × Int) (ng : Bool) : List (Int × Int) :=
  if x.1 = 4 then [] else if x.1 = 3 then (if ng = true then [(4, 0), x] else [x]) else [(sgF x.1 ng, 0)]
def writeF (e : List (Int × Int)) (B : List Int) (S : St) (j : Nat) : St :=
  ⟨ngW B (e.getD j (0, 0)).1 S j, S.wt, S.w ++ outW (e.getD j (0, 0)) (S.ng.getD j false)⟩
def keepF (e : List (Int × Int)) (B : List Int) (S : St) (j : Nat) : St :=
  if fiF (e.getD j (0, 0)).1 ≠ 0 then ⟨S.ng, S.wt ++ [(sgF (fiF (e.getD j (0, 0)).1) (S.ng.getD j false), B.getD j 0)], S.w⟩ else S
def leadF (j : Nat) (S : St) : St := ⟨S.ng, (popR j S.wt.reverse).2.reverse, S.w ++ (popR j S.wt.reverse).1⟩
def stepF (e : List (Int × Int)) (B : List Int) (S : St) (j : Nat) : St := leadF j (keepF e B (writeF e B S j) j)
/-- Places, downward. -/
def dn (b : Nat) : Nat → List Nat
  | 0 => []
  | s + 1 => (b + s) :: dn b s
theorem dn_add (b s1 : Nat) : ∀ s2, dn b (s1 + s2) = dn (b + s1) s2 ++ dn b s1
  | 0 => rfl
  | s2 + 1 => by
    rw [← Nat.add_assoc, dn, dn_add b s1 s2, dn, List.cons_append, Nat.add_assoc]
def runS (e : List (Int × Int)) (B : List Int) (S : St) (l : List Nat) : St := l.foldl (stepF e B) S
theorem runS_app (e : List (Int × Int)) (B : List Int) (S : St) (l1 l2 : List Nat) : runS e B S (l1 ++ l2) = runS e B (runS e B S l1) l2 := List.foldl_append
theorem set_other {l : List Bool} {i k : Nat} {v : Bool} (h : k ≠ i) : (l.set i v).getD k false = l.getD k false := by
  simp [List.getD, List.getElem?_set, Ne.symm h]
theorem set_same {l : List Bool} {i : Nat} {v : Bool} (h : i < l.length) : (l.set i v).getD i false = v := by
  simp [List.getD, h]
/-- What a step leaves: the parts' flags are set. -/
theorem ngW_len (B : List Int) (op : Int) (S : St) (j : Nat) : (ngW B op S j).length = S.ng.length := by
  unfold ngW
  simp only
  repeat' split
  all_goals simp
/-- What is done over a part. -/
structure Done (S S' : St) (b : Nat) (f : List (Int × Int)) : Prop where
  w : S'.w = S.w ++ (f.reverse ++ (popR b S.wt.reverse).1)
  wt : S'.wt = (popR b S.wt.reverse).2.reverse
  ng : ∀ k, k < b → S'.ng.getD k false = S.ng.getD k false
  len : S'.ng.length = S.ng.length
theorem kT2 {op : Int} (h : kT op = 2) : isBi op = true ∧ op ≠ 3 ∧ op ≠ 4 ∧ op ≠ 8 ∧ fiF op = 0 := by
  rcases kT_cases op with ⟨h1, _⟩ | ⟨h1, _⟩ | ⟨_, h2⟩ | ⟨h1, _⟩
  · omega
  · omega
  · rcases h2 with rfl | rfl | rfl | rfl | rfl <;> decide
  · omega
theorem kT0 {op : Int} (h : kT op = 0) : isBi op = false ∧ op ≠ 7 ∧ op ≠ 4 ∧ op ≠ 8 ∧ op ≠ 11 ∧ op ≠ 12 ∧ fiF op = 0 := by
  rcases kT_cases op with ⟨_, h2⟩ | ⟨h1, _⟩ | ⟨h1, _⟩ | ⟨h1, _⟩
  · rcases h2 with rfl | rfl | rfl <;> decide
  · omega
  · omega
  · omega
theorem kT1 {op : Int} (h : kT op = 1) : isBi op = false ∧ op ≠ 7 ∧ op ≠ 3 ∧ (op = 4 ∨ op = 8 ∨ op = 11 ∨ op = 12) := by
  rcases kT_cases op with ⟨h1, _⟩ | ⟨_, h2⟩ | ⟨h1, _⟩ | ⟨h1, _⟩
  · omega
  · rcases h2 with rfl | rfl | rfl | rfl <;> decide
  · omega
  · omega
theorem lead_no {j : Nat} {S : St} (h : ∀ x ∈ S.wt, x.2 < (j : Int)) : leadF j S = S := by
  unfold leadF
  rw [popR_no (fun x hx => h x (by simpa using hx))]
  simp
theorem run_part (e : List (Int × Int)) (B : List Int) : ∀ (t : Tr) (b : Nat) (S : St) (ng : Bool), At e B t b → Wf t → S.ng.length = e.length → S.ng.getD (b + sz t - 1) false = ng →
    (∀ k, b ≤ k → k < b + sz t - 1 → S.ng.getD k false = false) → (∀ x ∈ S.wt, x.2 ≤ (b : Int)) → Done S (runS e B S (dn b (sz t))) b (post (nfT t ng))
  | .lf x, b, S, ng, h, hw, hl, hn, _, _ => by
    obtain ⟨k1, k2, k3, k4, k5, k6, k7⟩ := kT0 hw.1
    have hn' : S.ng.getD b false = ng := hn
    show Done S (stepF e B S b) b _
    have e1 : ngW B x.1 S b = S.ng := by
      unfold ngW
      simp only [k1]
      rw [if_neg (by simp), if_neg (by omega), if_neg k3]
    have e2 : stepF e B S b = leadF b ⟨S.ng, S.wt, S.w ++ outW x ng⟩ := by
      unfold stepF keepF
      rw [h.2.1, if_neg (by rw [k7]; decide)]
      unfold writeF
      rw [h.2.1, e1, hn']
    rw [e2]
    refine ⟨?_, rfl, fun _ _ => rfl, rfl⟩
    show S.w ++ outW x ng ++ _ = _
    rw [List.append_assoc]
    congr 2
    rw [nfT_lf]
    unfold outW
    rw [if_neg k3]
    by_cases h3 : x.1 = 3
    · rw [if_pos h3, if_pos h3]
      cases ng <;> simp [post]
    · rw [if_neg h3, if_neg h3]
      rfl
  | .un x t, b, S, ng, h, hw, hl, hn, hz, hwt => by
    obtain ⟨k1, k2, k3, k4⟩ := kT1 hw.1
    have hp := sz_pos t
    have hj : b + sz (.un x t) - 1 = b + sz t := by rw [sz]; omega
    rw [hj] at hn hz
    have hlt := h.2.1
    show Done S (runS e B (stepF e B S (b + sz t)) (dn b (sz t))) b _
    obtain ⟨vk, hvk⟩ : ∃ vk, vk = (if x.1 = 4 then !ng else ng) := ⟨_, rfl⟩
    have e1 : ngW B x.1 S (b + sz t) = S.ng.set (b + sz t - 1) vk := by
      unfold ngW
      simp only [k1, hn]
      rw [if_neg (by simp), hvk]
      rcases k4 with h4 | h4 | h4 | h4
      · rw [if_neg (by omega), if_pos h4, if_pos h4]
      · rw [if_pos (by omega), if_neg (by omega)]
      · rw [if_pos (by omega), if_neg (by omega)]
      · rw [if_pos (by omega), if_neg (by omega)]
    have hset : (S.ng.set (b + sz t - 1) vk).getD (b + sz t) false = ng := by rw [set_other (by omega)]; exact hn
    obtain ⟨wt2, hwt2⟩ : ∃ wt2, wt2 = (if fiF x.1 ≠ 0 then S.wt ++ [(sgF (fiF x.1) ng, (b : Int))] else S.wt) := ⟨_, rfl⟩
    have e2 : stepF e B S (b + sz t) = ⟨S.ng.set (b + sz t - 1) vk, wt2, S.w ++ outW x ng⟩ := by
      unfold stepF
      rw [lead_no]
      · unfold keepF writeF
        rw [h.2.2.1, e1, hn, hwt2]
        simp only [hset, h.2.2.2]
        split
        · rfl
        · rfl
      · unfold keepF writeF
        rw [h.2.2.1, e1, hn]
        simp only [hset, h.2.2.2]
        intro y hy
        split at hy
        · rcases List.mem_append.1 hy with hy | hy
          · have := hwt y hy; omega
          · rw [List.mem_singleton] at hy
            rw [hy]
            simp only
            omega
        · have := hwt y hy; omega
    rw [e2]
    have hwtb : ∀ y ∈ wt2, y.2 ≤ (b : Int) := by
      intro y hy
      rw [hwt2] at hy
      split at hy
      · rcases List.mem_append.1 hy with hy | hy
        · exact hwt y hy
        · rw [List.mem_singleton] at hy
          rw [hy]
          exact Int.le_refl _
      · exact hwt y hy
    have ih := run_part e B t b ⟨S.ng.set (b + sz t - 1) vk, wt2, S.w ++ outW x ng⟩ vk h.1 hw.2 (by simpa using hl) (set_same (by omega)) (fun k hk1 hk2 => by
      show (S.ng.set _ _).getD k false = false
      rw [set_other (by omega)]
      exact hz k hk1 (by omega)) hwtb
    obtain ⟨i1, i2, i3, i4⟩ := ih
    simp only at i1 i2 i3 i4
    refine ⟨?_, ?_, fun k hk => (i3 k hk).trans (set_other (by omega)), by rw [i4]; simp⟩
    · rw [i1]
      rw [nfT_un]
      unfold outW
      rcases k4 with h4 | h4 | h4 | h4
      · have hf : fiF x.1 = 0 := by rw [h4]; rfl
        rw [if_pos h4, if_pos h4, hvk, if_pos h4, hwt2, if_neg (by rw [hf]; decide)]
        simp
      · have hf : fiF x.1 = 0 := by rw [h4]; rfl
        rw [if_neg (by omega), if_neg k3, if_neg (by omega), if_pos h4, hvk, if_neg (by omega), hwt2, if_neg (by rw [hf]; decide), post, h4]
        have : sgF 8 ng = 8 := by cases ng <;> rfl
        rw [this]
        simp
      · have hf : fiF x.1 ≠ 0 := by rw [h4]; decide
        rw [if_neg (by omega), if_neg k3, if_neg (by omega), if_neg (by omega), hvk, if_neg (by omega), hwt2, if_pos hf, post, post, List.reverse_append, List.reverse_singleton, List.singleton_append, popR, if_pos rfl]
        simp
      · have hf : fiF x.1 ≠ 0 := by rw [h4]; decide
        rw [if_neg (by omega), if_neg k3, if_neg (by omega), if_neg (by omega), hvk, if_neg (by omega), hwt2, if_pos hf, post, post, List.reverse_append, List.reverse_singleton, List.singleton_append, popR, if_pos rfl]
        simp
    · rw [i2, hwt2]
      split
      · rw [List.reverse_append, List.reverse_singleton, List.singleton_append, popR, if_pos rfl]
      · rfl
  | .bi x l r, b, S, ng, h, hw, hl, hn, hz, hwt => by
    obtain ⟨k1, k3, k4, k8, k9⟩ := kT2 hw.1
    have hpl := sz_pos l
    have hpr := sz_pos r
    obtain ⟨hL, hR, hlt, hx, hb⟩ := h
    have hj : b + sz (.bi x l r) - 1 = b + sz l + sz r := by rw [sz]; omega
    rw [hj] at hn hz
    have hlast := hR.last
    have hlf : lefF B (b + sz l + sz r) = b + sz l - 1 := by
      unfold lefF
      rw [hlast.1]
      omega
    have hdn : dn b (sz (.bi x l r)) = (b + sz l + sz r) :: (dn (b + sz l) (sz r) ++ dn b (sz l)) := by
      rw [← dn_add]
      show (b + (sz l + sz r)) :: _ = _
      rw [Nat.add_assoc]
    rw [hdn]
    show Done S (runS e B (stepF e B S (b + sz l + sz r)) _) b _
    rw [runS_app]
    obtain ⟨vk, hvk⟩ : ∃ vk, vk = (if x.1 = 7 then !ng else ng) := ⟨_, rfl⟩
    obtain ⟨n1, hn1⟩ : ∃ n1, n1 = (if x.1 = 7 then S.ng.set (b + sz l - 1) true else S.ng) := ⟨_, rfl⟩
    have hn1l : n1.length = S.ng.length := by rw [hn1]; split <;> simp
    have hn1o : ∀ k, k ≠ b + sz l - 1 → n1.getD k false = S.ng.getD k false := fun k hk => by
      rw [hn1]
      split
      · exact set_other hk
      · rfl
    have hn1v : (n1.getD (b + sz l - 1) false != ng) = vk := by
      rw [hn1, hvk]
      split
      · rw [set_same (by omega)]
        cases ng <;> rfl
      · rw [hz (b + sz l - 1) (by omega) (by omega)]
        cases ng <;> rfl
    obtain ⟨n2, hn2⟩ : ∃ n2, n2 = (n1.set (b + sz l - 1) vk).set (b + sz l + sz r - 1) ng := ⟨_, rfl⟩
    have e1 : ngW B x.1 S (b + sz l + sz r) = n2 := by
      unfold ngW
      simp only [k1, hlf, hn]
      rw [if_pos trivial, hn2, ← hn1, hn1v]
    have e2 : stepF e B S (b + sz l + sz r) = ⟨n2, S.wt, S.w ++ outW x ng⟩ := by
      unfold stepF
      have e3 : keepF e B (writeF e B S (b + sz l + sz r)) (b + sz l + sz r) = ⟨n2, S.wt, S.w ++ outW x ng⟩ := by
        unfold keepF
        rw [hx, if_neg (by rw [k9]; decide)]
        unfold writeF
        rw [hx, e1, hn]
      rw [e3, lead_no (fun y hy => by have := hwt y hy; omega)]
    rw [e2]
    have hn2l : n2.length = S.ng.length := by rw [hn2]; simp [hn1l]
    have hn2o : ∀ k, k ≠ b + sz l - 1 → k ≠ b + sz l + sz r - 1 → n2.getD k false = S.ng.getD k false := fun k h1 h2 => by
      rw [hn2, set_other h2, set_other h1, hn1o k h1]
    have ihr := run_part e B r (b + sz l) ⟨n2, S.wt, S.w ++ outW x ng⟩ ng hR hw.2.2 (by rw [← hl]; exact hn2l) (by
      show n2.getD _ false = ng
      rw [hn2]
      exact set_same (by simp [hn1l]; omega)) (fun k q1 q2 => by
      show n2.getD k false = false
      rw [hn2o k (by omega) (by omega)]
      exact hz k (by omega) (by omega)) (fun y hy => by have := hwt y hy; omega)
    obtain ⟨i1, i2, i3, i4⟩ := ihr
    simp only at i1 i2 i3 i4
    rw [popR_no (fun y hy => by have := hwt y (by simpa using hy); omega)] at i1 i2
    simp only [List.reverse_reverse, List.append_nil] at i1 i2
    generalize runS e B ⟨n2, S.wt, S.w ++ outW x ng⟩ (dn (b + sz l) (sz r)) = S2 at *
    have ihl := run_part e B l b S2 vk hL hw.2.1 (by rw [i4, hn2l, hl]) (by
      rw [i3 _ (by omega), hn2, set_other (by omega)]
      exact set_same (by omega)) (fun k q1 q2 => by
      rw [i3 _ (by omega), hn2o k (by omega) (by omega)]
      exact hz k q1 (by omega)) (fun y hy => by rw [i2] at hy; exact hwt y hy)
    obtain ⟨j1, j2, j3, j4⟩ := ihl
    rw [i2] at j1 j2
    refine ⟨?_, j2, fun k hk => ?_, by rw [j4, i4, hn2l]⟩
    · rw [j1, i1]
      have e5 : post (nfT (.bi x l r) ng) = post (nfT l vk) ++ (post (nfT r ng) ++ outW x ng) := by
        rw [nfT_bi]
        unfold outW
        rw [if_neg k4, if_neg k3, hvk]
        by_cases h7 : x.1 = 7
        · rw [if_pos h7, if_pos h7, post, h7]
        · rw [if_neg h7, if_neg h7, post]
      have e6 : (outW x ng).reverse = outW x ng := by
        unfold outW
        rw [if_neg k4, if_neg k3]
        rfl
      rw [e5]
      simp [e6]
    · rw [j3 k hk, i3 k (by omega), hn2o k (by omega) (by omega)]
/-- The whole form: from the end on. -/
theorem run_all {e : List (Int × Int)} (h : wrF 0 e = 0) (ng : Bool) : ∃ t, Wf t ∧ post t = e ∧ At e (outF e e.length) t 0 ∧ sz t = e.length ∧
    (runS e (outF e e.length) ⟨(List.replicate e.length false).set (e.length - 1) ng, [], []⟩ (dn 0 e.length)).w = (post (nfT t ng)).reverse := by
  obtain ⟨t, h1, h2, h3⟩ := tree_of h
  have hp := sz_pos t
  refine ⟨t, h3, post_of h1 h2, h1, h2, ?_⟩
  have hd := run_part e (outF e e.length) t 0 ⟨(List.replicate e.length false).set (e.length - 1) ng, [], []⟩ ng h1 h3 (by simp) (by rw [h2, Nat.zero_add]; exact set_same (by simp; omega)) (fun k _ hk => by
    show ((List.replicate _ _).set _ _).getD k false = false
    rw [set_other (by rw [← h2]; omega)]
    simp only [List.getD, List.getElem?_replicate]
    split <;> rfl) (fun x hx => by simp at hx)
  rw [← h2]
  rw [← h2] at hd
  rw [hd.w]
  simp [popR]
end Go.Proofs.Ytophajljjnjcdaa.nf
