/- Negation normal form, plain: forms of forms, what is in normal form, what words say. Nothing here speaks of the program. -/
import Derived.Test.YtophajljjnjcdaaNnfPure
namespace Go.Proofs.Ytophajljjnjcdaa.nf
open lt

theorem app_last {α : Type} {P P' : List α} {x y : α} (h : P ++ [x] = P' ++ [y]) : P = P' ∧ x = y := by
  have h1 := congrArg List.reverse h
  simp at h1
  exact ⟨h1.2, h1.1⟩
/-- A tree is known by its nodes. -/
theorem post_uniq : ∀ (r r' : Tr) (P P' : List (Int × Int)), Wf r → Wf r' → P ++ post r = P' ++ post r' → r = r' ∧ P = P'
  | .lf x, .lf y, P, P', _, _, h => by
    obtain ⟨h1, h2⟩ := app_last h
    exact ⟨by rw [h2], h1⟩
  | .lf x, .un y t, P, P', h1, h2, h => by
    rw [post, post, ← List.append_assoc] at h
    obtain ⟨_, h4⟩ := app_last h
    have := h1.1; have := h2.1
    subst h4; omega
  | .lf x, .bi y l r, P, P', h1, h2, h => by
    rw [post, post, ← List.append_assoc, ← List.append_assoc] at h
    obtain ⟨_, h4⟩ := app_last h
    have := h1.1; have := h2.1
    subst h4; omega
  | .un x t, .lf y, P, P', h1, h2, h => by
    rw [post, post, ← List.append_assoc] at h
    obtain ⟨_, h4⟩ := app_last h
    have := h1.1; have := h2.1
    subst h4; omega
  | .un x t, .un y t', P, P', h1, h2, h => by
    rw [post, post, ← List.append_assoc, ← List.append_assoc] at h
    obtain ⟨h3, h4⟩ := app_last h
    obtain ⟨h5, h6⟩ := post_uniq t t' P P' h1.2 h2.2 h3
    exact ⟨by rw [h4, h5], h6⟩
  | .un x t, .bi y l r, P, P', h1, h2, h => by
    rw [post, post, ← List.append_assoc, ← List.append_assoc, ← List.append_assoc] at h
    obtain ⟨_, h4⟩ := app_last h
    have := h1.1; have := h2.1
    subst h4; omega
  | .bi x l r, .lf y, P, P', h1, h2, h => by
    rw [post, post, ← List.append_assoc, ← List.append_assoc] at h
    obtain ⟨_, h4⟩ := app_last h
    have := h1.1; have := h2.1
    subst h4; omega
  | .bi x l r, .un y t, P, P', h1, h2, h => by
    rw [post, post, ← List.append_assoc, ← List.append_assoc, ← List.append_assoc] at h
    obtain ⟨_, h4⟩ := app_last h
    have := h1.1; have := h2.1
    subst h4; omega
  | .bi x l r, .bi y l' r', P, P', h1, h2, h => by
    rw [post, post, ← List.append_assoc, ← List.append_assoc, ← List.append_assoc, ← List.append_assoc] at h
    obtain ⟨h3, h4⟩ := app_last h
    obtain ⟨h5, h6⟩ := post_uniq r r' (P ++ post l) (P' ++ post l') h1.2.2 h2.2.2 h3
    obtain ⟨h7, h8⟩ := post_uniq l l' P P' h1.2.1 h2.2.1 h6
    exact ⟨by rw [h4, h5, h7], h8⟩
theorem post_inj {t t' : Tr} (h : Wf t) (h' : Wf t') (he : post t = post t') : t = t' := (post_uniq t t' [] [] h h' (by simpa using he)).1

theorem sg_op {op : Int} (h : kT op = 0) (h3 : op ≠ 3) (ng : Bool) : (sgF op ng = 1 ∨ sgF op ng = 2) ∧ ∀ b, sgF (sgF op ng) b = sgF op (ng != b) := by
  rcases kT_cases op with ⟨_, h2⟩ | ⟨h1, _⟩ | ⟨h1, _⟩ | ⟨h1, _⟩
  · rcases h2 with rfl | rfl | rfl
    · cases ng <;> exact ⟨by decide, by decide⟩
    · cases ng <;> exact ⟨by decide, by decide⟩
    · exact absurd rfl h3
  · omega
  · omega
  · omega
theorem nf_wf : ∀ (t : Tr) (ng : Bool), Wf t → Wf (nfT t ng)
  | .lf x, ng, h => by
    rw [nfT_lf]
    by_cases h3 : x.1 = 3
    · rw [if_pos h3]
      cases ng
      · exact h
      · exact ⟨by decide, h⟩
    · rw [if_neg h3]
      have h1 := (sg_op h.1 h3 ng).1
      exact ⟨by rcases h1 with h1 | h1 <;> rw [h1] <;> decide, fun e => by dsimp only at e; omega⟩
  | .un x t, ng, h => by
    rw [nfT_un]
    obtain ⟨_, _, _, k4⟩ := kT1 h.1
    by_cases h4 : x.1 = 4
    · rw [if_pos h4]; exact nf_wf t _ h.2
    · rw [if_neg h4]
      by_cases h8 : x.1 = 8
      · rw [if_pos h8]; exact ⟨by decide, nf_wf t _ h.2⟩
      · rw [if_neg h8]
        have h5 : x.1 = 11 ∨ x.1 = 12 := by omega
        refine ⟨?_, ⟨?_, ?_⟩, nf_wf t _ h.2⟩
        · rcases h5 with h5 | h5 <;> rw [h5] <;> cases ng <;> decide
        · rcases h5 with h5 | h5 <;> rw [h5] <;> cases ng <;> decide
        · rcases h5 with h5 | h5 <;> rw [h5] <;> cases ng <;> decide
  | .bi x l r, ng, h => by
    rw [nfT_bi]
    rcases kT_cases x.1 with ⟨h1, _⟩ | ⟨h1, _⟩ | ⟨_, h2⟩ | ⟨h1, _⟩
    · have := h.1; omega
    · have := h.1; omega
    · by_cases h7 : x.1 = 7
      · rw [if_pos h7]
        exact ⟨by cases ng <;> decide, nf_wf l _ h.2.1, nf_wf r _ h.2.2⟩
      · rw [if_neg h7]
        refine ⟨?_, nf_wf l _ h.2.1, nf_wf r _ h.2.2⟩
        rcases h2 with h2 | h2 | h2 | h2 | h2 <;> rw [h2] <;> cases ng <;> decide
    · have := h.1; omega
/-- The form of a form. -/
theorem nf_twice : ∀ (t : Tr) (a b : Bool), Wf t → nfT (nfT t a) b = nfT t (a != b)
  | .lf x, a, b, h => by
    rw [nfT_lf, nfT_lf]
    by_cases h3 : x.1 = 3
    · rw [if_pos h3, if_pos h3]
      cases a
      · simp [nfT_lf, h3]
      · simp [nfT_un, nfT_lf, h3]
    · rw [if_neg h3, if_neg h3]
      obtain ⟨h1, h2⟩ := sg_op h.1 h3 a
      rw [nfT_lf, if_neg (by dsimp only; omega)]
      dsimp only
      rw [h2]
  | .un x t, a, b, h => by
    obtain ⟨_, _, _, k4⟩ := kT1 h.1
    rw [nfT_un, nfT_un]
    by_cases h4 : x.1 = 4
    · rw [if_pos h4, if_pos h4, nf_twice t _ _ h.2]
      cases a <;> cases b <;> rfl
    · rw [if_neg h4, if_neg h4]
      by_cases h8 : x.1 = 8
      · rw [if_pos h8, if_pos h8, nfT_un, if_neg (by decide), if_pos rfl, nf_twice t _ _ h.2]
      · rw [if_neg h8, if_neg h8]
        have h5 : x.1 = 11 ∨ x.1 = 12 := by omega
        have e1 : sgF (sgF x.1 a) b = sgF x.1 (a != b) := by rcases h5 with h5 | h5 <;> rw [h5] <;> cases a <;> cases b <;> decide
        have e2 : sgF (sgF (fiF x.1) a) b = sgF (fiF x.1) (a != b) := by rcases h5 with h5 | h5 <;> rw [h5] <;> cases a <;> cases b <;> decide
        have e3 : sgF x.1 a ≠ 7 := by rcases h5 with h5 | h5 <;> rw [h5] <;> cases a <;> decide
        have e4 : sgF (fiF x.1) a ≠ 3 := by rcases h5 with h5 | h5 <;> rw [h5] <;> cases a <;> decide
        rw [nfT_bi, if_neg e3, nfT_lf, if_neg e4, nf_twice t _ _ h.2]
        dsimp only
        rw [e1, e2]
  | .bi x l r, a, b, h => by
    rw [nfT_bi, nfT_bi]
    rcases kT_cases x.1 with ⟨h1, _⟩ | ⟨h1, _⟩ | ⟨_, h2⟩ | ⟨h1, _⟩
    · have := h.1; omega
    · have := h.1; omega
    · by_cases h7 : x.1 = 7
      · rw [if_pos h7, if_pos h7, nfT_bi, if_neg (by cases a <;> decide), nf_twice l _ _ h.2.1, nf_twice r _ _ h.2.2]
        cases a <;> cases b <;> rfl
      · rw [if_neg h7, if_neg h7, nfT_bi]
        have e1 : sgF (sgF x.1 a) b = sgF x.1 (a != b) := by
          rcases h2 with h2 | h2 | h2 | h2 | h2
          · rw [h2]; cases a <;> cases b <;> decide
          · rw [h2]; cases a <;> cases b <;> decide
          · exact absurd h2 h7
          · rw [h2]; cases a <;> cases b <;> decide
          · rw [h2]; cases a <;> cases b <;> decide
        have e3 : sgF x.1 a ≠ 7 := by rcases h2 with h2 | h2 | h2 | h2 | h2 <;> rw [h2] <;> cases a <;> decide
        rw [if_neg e3, nf_twice l _ _ h.2.1, nf_twice r _ _ h.2.2]
        dsimp only
        rw [e1]
    · have := h.1; omega
theorem nf_size : ∀ (t : Tr) (ng : Bool), sz (nfT t ng) ≤ 2 * sz t
  | .lf x, ng => by
    rw [nfT_lf]
    split
    · split
      · exact Nat.le_refl 2
      · show 1 ≤ 2; omega
    · show 1 ≤ 2; omega
  | .un x t, ng => by
    have h1 := nf_size t ng
    have h2 := nf_size t (!ng)
    rw [nfT_un]
    split
    · rw [sz]; omega
    · split
      · rw [sz, sz]; omega
      · rw [sz, sz, sz]; omega
  | .bi x l r, ng => by
    have h1 := nf_size l ng
    have h2 := nf_size l (!ng)
    have h3 := nf_size r ng
    rw [nfT_bi]
    split
    · rw [sz, sz]; omega
    · rw [sz, sz]; omega

/-- Normal form, node by node. -/
def NL (l : List (Int × Int)) : Prop := ∀ i, i < l.length → ((l.getD i (0, 0)).1 ≠ 7 ∧ (l.getD i (0, 0)).1 ≠ 11 ∧ (l.getD i (0, 0)).1 ≠ 12) ∧ ((l.getD i (0, 0)).1 = 4 → 0 < i ∧ (l.getD (i - 1) (0, 0)).1 = 3)
/-- Normal form, of a tree. -/
def TN : Tr → Prop
  | .lf _ => True
  | .un x t => x.1 = 8 ∧ TN t ∨ x.1 = 4 ∧ ∃ y, t = .lf y ∧ y.1 = 3
  | .bi x l r => x.1 ≠ 7 ∧ TN l ∧ TN r
theorem getD_l {a b : List (Int × Int)} {i : Nat} (h : i < a.length) : (a ++ b).getD i (0, 0) = a.getD i (0, 0) := by simp [List.getD, List.getElem?_append_left h]
theorem getD_r {a b : List (Int × Int)} {i : Nat} (h : a.length ≤ i) : (a ++ b).getD i (0, 0) = b.getD (i - a.length) (0, 0) := by simp [List.getD, List.getElem?_append_right h]
theorem NL.app {a b : List (Int × Int)} (ha : NL a) (hb : NL b) : NL (a ++ b) := by
  intro i hi
  rw [List.length_append] at hi
  by_cases h : i < a.length
  · rw [getD_l h]
    refine ⟨(ha i h).1, fun h4 => ?_⟩
    obtain ⟨h1, h2⟩ := (ha i h).2 h4
    exact ⟨h1, by rw [getD_l (by omega)]; exact h2⟩
  · rw [getD_r (by omega)]
    have hb' := hb (i - a.length) (by omega)
    refine ⟨hb'.1, fun h4 => ?_⟩
    obtain ⟨h1, h2⟩ := hb'.2 h4
    refine ⟨by omega, ?_⟩
    rw [getD_r (by omega), show i - 1 - a.length = i - a.length - 1 by omega]
    exact h2
theorem NL.left {a b : List (Int × Int)} (h : NL (a ++ b)) : NL a := by
  intro i hi
  have h1 := h i (by rw [List.length_append]; omega)
  rw [getD_l hi] at h1
  refine ⟨h1.1, fun h4 => ?_⟩
  obtain ⟨h2, h3⟩ := h1.2 h4
  rw [getD_l (by omega)] at h3
  exact ⟨h2, h3⟩
theorem NL.one {x : Int × Int} (h : x.1 ≠ 7 ∧ x.1 ≠ 11 ∧ x.1 ≠ 12 ∧ x.1 ≠ 4) : NL [x] := by
  intro i hi
  have hi : i < 1 := hi
  obtain rfl : i = 0 := by omega
  exact ⟨⟨h.1, h.2.1, h.2.2.1⟩, fun h4 => absurd h4 h.2.2.2⟩
theorem post_first : ∀ t : Tr, Wf t → ∃ x l, post t = x :: l ∧ kT x.1 = 0
  | .lf x, h => ⟨x, [], rfl, h.1⟩
  | .un x t, h => by
    obtain ⟨y, l, h1, h2⟩ := post_first t h.2
    exact ⟨y, l ++ [x], by rw [post, h1]; rfl, h2⟩
  | .bi x l r, h => by
    obtain ⟨y, q, h1, h2⟩ := post_first l h.2.1
    exact ⟨y, q ++ (post r ++ [x]), by rw [post, h1]; rfl, h2⟩
theorem NL.right {a : List (Int × Int)} {t : Tr} (ht : Wf t) (h : NL (a ++ post t)) : NL (post t) := by
  intro i hi
  have h1 := h (i + a.length) (by rw [List.length_append]; omega)
  rw [getD_r (by omega), Nat.add_sub_cancel] at h1
  refine ⟨h1.1, fun h4 => ?_⟩
  obtain ⟨h2, h3⟩ := h1.2 h4
  by_cases h0 : i = 0
  · subst h0
    obtain ⟨x, l, e1, e2⟩ := post_first t ht
    rw [e1] at h4
    have h4 : x.1 = 4 := h4
    rw [h4] at e2
    exact absurd e2 (by decide)
  · rw [getD_r (by omega), show i + a.length - 1 - a.length = i - 1 by omega] at h3
    exact ⟨by omega, h3⟩
/-- The last node. -/
def rootT : Tr → Int × Int
  | .lf x => x
  | .un x _ => x
  | .bi x _ _ => x
theorem post_last : ∀ t : Tr, (post t).getD (sz t - 1) (0, 0) = rootT t
  | .lf x => rfl
  | .un x t => by
    show (post t ++ [x]).getD (sz t + 1 - 1) (0, 0) = x
    rw [getD_r (by rw [post_len]; omega), post_len, Nat.add_sub_cancel, Nat.sub_self]
    rfl
  | .bi x l r => by
    show (post l ++ (post r ++ [x])).getD (sz l + sz r + 1 - 1) (0, 0) = x
    rw [← List.append_assoc, getD_r (by rw [List.length_append, post_len, post_len]; omega), List.length_append, post_len, post_len, Nat.add_sub_cancel, Nat.sub_self]
    rfl
/-- The two say the same. -/
theorem tn_of : ∀ t : Tr, Wf t → NL (post t) → TN t
  | .lf _, _, _ => trivial
  | .un x t, h, hn => by
    rw [post] at hn
    have h1 := hn (sz t) (by rw [List.length_append, post_len]; show sz t < sz t + 1; omega)
    have e1 : (post t ++ [x]).getD (sz t) (0, 0) = x := by
      rw [getD_r (by rw [post_len]; exact Nat.le_refl _), post_len, Nat.sub_self]; rfl
    rw [e1] at h1
    obtain ⟨_, _, _, k4⟩ := kT1 h.1
    have hp := sz_pos t
    by_cases h4 : x.1 = 4
    · right
      obtain ⟨_, h3⟩ := h1.2 h4
      rw [getD_l (by rw [post_len]; omega), post_last] at h3
      refine ⟨h4, ?_⟩
      cases t with
      | lf y => exact ⟨y, rfl, h3⟩
      | un y t => exact absurd (h.2.1) (by have h3 : y.1 = 3 := h3; rw [h3]; decide)
      | bi y l r => exact absurd (h.2.1) (by have h3 : y.1 = 3 := h3; rw [h3]; decide)
    · left
      exact ⟨by omega, tn_of t h.2 hn.left⟩
  | .bi x l r, h, hn => by
    rw [post, ← List.append_assoc] at hn
    have h1 := hn (sz l + sz r) (by rw [List.length_append, List.length_append, post_len, post_len]; show _ < sz l + sz r + 1; omega)
    have e1 : (post l ++ post r ++ [x]).getD (sz l + sz r) (0, 0) = x := by
      rw [getD_r (by rw [List.length_append, post_len, post_len]; exact Nat.le_refl _), List.length_append, post_len, post_len, Nat.sub_self]; rfl
    rw [e1] at h1
    exact ⟨h1.1.1, tn_of l h.2.1 hn.left.left, tn_of r h.2.2 (NL.right h.2.2 hn.left)⟩
theorem nl_nf : ∀ (t : Tr) (ng : Bool), Wf t → NL (post (nfT t ng))
  | .lf x, ng, h => by
    obtain ⟨_, k7, k4, _, k11, k12, _⟩ := kT0 h.1
    rw [nfT_lf]
    by_cases h3 : x.1 = 3
    · rw [if_pos h3]
      cases ng
      · exact NL.one ⟨k7, k11, k12, k4⟩
      · show NL [x, (4, 0)]
        intro i hi
        have hi : i < 2 := hi
        have h2 : i = 0 ∨ i = 1 := by omega
        rcases h2 with rfl | rfl
        · exact ⟨⟨k7, k11, k12⟩, fun h4 => absurd h4 k4⟩
        · exact ⟨(by decide : (4 : Int) ≠ 7 ∧ (4 : Int) ≠ 11 ∧ (4 : Int) ≠ 12), fun _ => ⟨by decide, h3⟩⟩
    · rw [if_neg h3]
      have h1 := (sg_op h.1 h3 ng).1
      exact NL.one (by dsimp only; omega)
  | .un x t, ng, h => by
    obtain ⟨_, _, _, k4⟩ := kT1 h.1
    rw [nfT_un]
    by_cases h4 : x.1 = 4
    · rw [if_pos h4]; exact nl_nf t _ h.2
    · rw [if_neg h4]
      by_cases h8 : x.1 = 8
      · rw [if_pos h8]
        exact (nl_nf t _ h.2).app (NL.one (by decide))
      · rw [if_neg h8]
        have h5 : x.1 = 11 ∨ x.1 = 12 := by omega
        have e1 : NL [(sgF (fiF x.1) ng, (0 : Int))] := NL.one (by rcases h5 with h5 | h5 <;> rw [h5] <;> cases ng <;> decide)
        have e2 : NL [(sgF x.1 ng, (0 : Int))] := NL.one (by rcases h5 with h5 | h5 <;> rw [h5] <;> cases ng <;> decide)
        exact e1.app ((nl_nf t _ h.2).app e2)
  | .bi x l r, ng, h => by
    rw [nfT_bi]
    rcases kT_cases x.1 with ⟨h1, _⟩ | ⟨h1, _⟩ | ⟨_, h2⟩ | ⟨h1, _⟩
    · have := h.1; omega
    · have := h.1; omega
    · by_cases h7 : x.1 = 7
      · rw [if_pos h7]
        exact (nl_nf l _ h.2.1).app ((nl_nf r _ h.2.2).app (NL.one (by cases ng <;> decide)))
      · rw [if_neg h7]
        exact (nl_nf l _ h.2.1).app ((nl_nf r _ h.2.2).app (NL.one (by rcases h2 with h2 | h2 | h2 | h2 | h2 <;> rw [h2] <;> cases ng <;> decide)))
    · have := h.1; omega
/-- A node without the number that is not looked at. -/
def bn (x : Int × Int) : Int × Int := if x.1 = 3 then x else (x.1, 0)
theorem bn_op (x : Int × Int) : (bn x).1 = x.1 := by unfold bn; split <;> rfl
theorem sg_pos {op : Int} (h : 0 ≤ kT op) (h3 : op ≠ 3) (h4 : op ≠ 4) (h7 : op ≠ 7) (h11 : op ≠ 11) (h12 : op ≠ 12) : sgF op false = op := by
  rcases kT_cases op with ⟨_, h2⟩ | ⟨_, h2⟩ | ⟨_, h2⟩ | ⟨h1, _⟩
  · rcases h2 with rfl | rfl | rfl <;> first | rfl | exact absurd rfl h3
  · rcases h2 with rfl | rfl | rfl | rfl <;> first | rfl | exact absurd rfl h4 | exact absurd rfl h11 | exact absurd rfl h12
  · rcases h2 with rfl | rfl | rfl | rfl | rfl <;> first | rfl | exact absurd rfl h7
  · omega
theorem nf_same : ∀ t : Tr, Wf t → TN t → post (nfT t false) = (post t).map bn
  | .lf x, h, _ => by
    obtain ⟨_, k7, k4, _, k11, k12, _⟩ := kT0 h.1
    rw [nfT_lf]
    by_cases h3 : x.1 = 3
    · rw [if_pos h3]
      show [x] = [bn x]
      unfold bn
      rw [if_pos h3]
    · rw [if_neg h3]
      show [(sgF x.1 false, (0 : Int))] = [bn x]
      unfold bn
      rw [if_neg h3, sg_pos (by rw [h.1]; decide) h3 k4 k7 k11 k12]
  | .un x t, h, hn => by
    rw [nfT_un, post, List.map_append]
    rcases hn with ⟨h8, h2⟩ | ⟨h4, y, rfl, h3⟩
    · rw [if_neg (by omega), if_pos h8, post, nf_same t h.2 h2]
      show _ = _ ++ [bn x]
      unfold bn
      rw [if_neg (by omega), h8]
    · rw [if_pos h4]
      show post (if y.1 = 3 then (if true = true then Tr.un (4, 0) (.lf y) else .lf y) else _) = _
      rw [if_pos h3, if_pos rfl]
      show [y, (4, 0)] = [bn y, bn x]
      unfold bn
      rw [if_pos h3, if_neg (by omega), h4]
  | .bi x l r, h, hn => by
    obtain ⟨_, k3, k4, k8, _⟩ := kT2 h.1
    have k11 : x.1 ≠ 11 := fun e => by have := h.1; rw [e] at this; exact absurd this (by decide)
    have k12 : x.1 ≠ 12 := fun e => by have := h.1; rw [e] at this; exact absurd this (by decide)
    rw [nfT_bi, if_neg hn.1, post, post, nf_same l h.2.1 hn.2.1, nf_same r h.2.2 hn.2.2, List.map_append, List.map_append, sg_pos (by rw [h.1]; decide) k3 k4 hn.1 k11 k12]
    show _ = _ ++ (_ ++ [bn x])
    unfold bn
    rw [if_neg k3]
theorem nl_bn {l l' : List (Int × Int)} (h : l.map bn = l') (hn : NL l') : NL l := by
  subst h
  have e : ∀ i, ((l.map bn).getD i (0, 0)).1 = (l.getD i (0, 0)).1 := fun i => by
    rw [List.getD_eq_getElem?_getD, List.getD_eq_getElem?_getD, List.getElem?_map]
    cases l[i]? with
    | none => rfl
    | some x => exact bn_op x
  intro i hi
  have h1 := hn i (by rw [List.length_map]; exact hi)
  rw [e, e] at h1
  exact h1
/-- What is in normal form: what is its own positive form. -/
theorem nl_iff {t : Tr} (h : Wf t) : (post t).map bn = post (nfT t false) ↔ NL (post t) :=
  ⟨fun e => nl_bn e (nl_nf t false h), fun hn => (nf_same t h (tn_of t h hn)).symm⟩
end Go.Proofs.Ytophajljjnjcdaa.nf
