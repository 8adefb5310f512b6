/- Expressions, plain: what has a kind in a scope has a value of that kind, or none that can be had, if what the scope speaks of fits it. -/
import Derived.Test.YtodloljpfbkkjaaRRRRExprDone
import Derived.Test.YtodloljpfbkkjaaRRRRExprPut
import Derived.Test.YtodloljpfbkkjaaRRRRExprKindAll
namespace Go.Proofs.YtodloljpfbkkjaaRRRR

/-- A number of a kind. -/
def FitK (sizes : List Int) (k x : Int) : Prop := (k = 0 ∧ -1048576 ≤ x ∧ x ≤ 1048576) ∨ (k = 1 ∧ (x = 0 ∨ x = 1)) ∨ ∃ j : Nat, k = 2 + j ∧ j < sizes.length ∧ 0 ≤ x ∧ x ≤ sizes.getD j 0
theorem FitK.num {sizes : List Int} {x : Int} (h : FitK sizes 0 x) : -1048576 ≤ x ∧ x ≤ 1048576 := by
  rcases h with ⟨_, h⟩ | ⟨h, _⟩ | ⟨j, h, _⟩
  · exact h
  · omega
  · omega
theorem FitK.elem {sizes : List Int} {y : Int} {x : Int} (hy : 1 ≤ y) (h : FitK sizes (1 + y) x) : 0 ≤ x ∧ x ≤ sizes.getD (y - 1).toNat 0 := by
  rcases h with ⟨h, _⟩ | ⟨h, _⟩ | ⟨j, h, _, h1, h2⟩
  · omega
  · omega
  · rw [show (y - 1).toNat = j by omega]
    exact ⟨h1, h2⟩
/-- What the scope speaks of fits it. -/
structure EF (S : Sc) (E : Ev) : Prop where
  nv : E.vars.length = S.vars.length
  nl : E.locals.length = S.locals.length
  nc : E.lens.length = S.chans.length
  np : E.at_.length = S.procs.length
  plain : ∀ n, n < S.vars.length → (S.vars.getD n (0, 0)).2 = 0 → 0 < (E.vars.getD n []).length
  over : ∀ n, n < S.vars.length → 1 ≤ (S.vars.getD n (0, 0)).2 → (S.vars.getD n (0, 0)).2 ≤ S.sizes.length → ((E.vars.getD n []).length : Int) = S.sizes.getD ((S.vars.getD n (0, 0)).2 - 1).toNat 0
  cells : ∀ n, n < S.vars.length → ∀ i, i < (E.vars.getD n []).length → FitK S.sizes (kindOf (S.vars.getD n (0, 0)).1) ((E.vars.getD n []).getD i 0)
  locals : ∀ n, n < S.locals.length → FitK S.sizes (kindOf (S.locals.getD n (0, 0)).1) (E.locals.getD n 0)
  lens : ∀ n, n < S.chans.length → -1048576 ≤ E.lens.getD n 0 ∧ E.lens.getD n 0 ≤ 1048576
  at_ : ∀ n, n < S.procs.length → ∀ i : Nat, (i : Int) < S.procs.getD n 0 → i < (E.at_.getD n []).length ∧ -1048576 ≤ (E.at_.getD n []).getD i 0 ∧ (E.at_.getD n []).getD i 0 ≤ 1048576
  sz : ∀ j, j < S.sizes.length → 0 ≤ S.sizes.getD j 0
  self : 1 ≤ S.self → S.self ≤ S.sizes.length → 0 ≤ E.self ∧ E.self ≤ S.sizes.getD (S.self - 1).toNat 0

/-- What comes of a node fits its kind, or can't be had. -/
def Fits1 (sizes : List Int) (k : Int) (r : Int × Int) : Prop := (∃ x, r = (x, 0) ∧ FitK sizes k x) ∨ r = (0, 10)
theorem truth_fits (sizes : List Int) (b : Bool) : FitK sizes 1 (truthZ b) := .inr (.inl ⟨rfl, by cases b <;> simp [truthZ]⟩)
theorem told_fits (sizes : List Int) (l r n : Int) : Fits1 sizes 0 (hadF ((numSums.told l r n).getD 0) (numSums.told l r n).isSome 10) := by
  unfold numSums.told
  split
  · next h => exact .inl ⟨n, rfl, .inl ⟨rfl, by omega, by omega⟩⟩
  · exact .inr rfl
theorem fits_plain {S : Sc} {E : Ev} {n k : Int} (h : EF S E) (hk : plainK S.sizes.length S.vars n = (k, 0)) : Fits1 S.sizes k (cellV (rowV E.vars n) 0) := by
  cases hv : varK S.sizes.length S.vars n with
  | none => unfold plainK at hk; rw [hv] at hk; cases hk
  | some xy =>
    obtain ⟨x, y⟩ := xy
    unfold plainK at hk
    rw [hv] at hk
    simp only [hadF] at hk
    obtain ⟨j, rfl, hj, hg, x1, x2, y1, y2⟩ := varK_some hv
    split at hk
    · next hy =>
      injection hk with hk _
      subst hk
      have hy0 : y = 0 := by
        unfold kindOf at hy
        split at hy
        · assumption
        · simp at hy; omega
      have hl := h.plain j hj (by rw [hg]; exact hy0)
      have hc := h.cells j hj 0 hl
      rw [hg] at hc
      left
      refine ⟨_, ?_, hc⟩
      unfold rowV
      rw [if_pos (by rw [h.nv]; omega), Int.toNat_natCast]
      unfold cellV
      rw [if_pos (by omega)]
      rfl
    · cases hk
theorem fits_local {S : Sc} {E : Ev} {n k : Int} (h : EF S E) (hk : plainK S.sizes.length S.locals n = (k, 0)) : Fits1 S.sizes k (cellV E.locals n) := by
  cases hv : varK S.sizes.length S.locals n with
  | none => unfold plainK at hk; rw [hv] at hk; cases hk
  | some xy =>
    obtain ⟨x, y⟩ := xy
    unfold plainK at hk
    rw [hv] at hk
    simp only [hadF] at hk
    obtain ⟨j, rfl, hj, hg, _⟩ := varK_some hv
    split at hk
    · injection hk with hk _
      subst hk
      have hc := h.locals j hj
      rw [hg] at hc
      left
      refine ⟨_, ?_, hc⟩
      unfold cellV
      rw [if_pos (by rw [h.nl]; omega), Int.toNat_natCast]
    · cases hk
theorem fits_item {S : Sc} {E : Ev} {n k ix v : Int} (h : EF S E) (hk : itemK S.sizes.length S.vars n ix = (k, 0)) (hv0 : FitK S.sizes ix v) : Fits1 S.sizes k (itemV E.vars n v) := by
  cases hv : varK S.sizes.length S.vars n with
  | none => unfold itemK at hk; rw [hv] at hk; cases hk
  | some xy =>
    obtain ⟨x, y⟩ := xy
    unfold itemK at hk
    rw [hv] at hk
    simp only [hadF] at hk
    obtain ⟨j, rfl, hj, hg, x1, x2, y1, y2⟩ := varK_some hv
    split at hk
    · next hy =>
      injection hk with hk _
      subst hk
      have hyy : y ≠ 0 ∧ ix = 1 + y := by
        unfold kindOf at hy
        by_cases h0 : y = 0
        · subst h0; simp at hy
        · rw [if_neg h0] at hy
          simp at hy
          exact ⟨h0, hy.2.symm⟩
      have hl := h.over j hj (by rw [hg]; show 1 ≤ y; omega) (by rw [hg]; exact y2)
      rw [hg] at hl
      have he := FitK.elem (show 1 ≤ y by omega) (by rw [← hyy.2]; exact hv0)
      unfold itemV
      rw [if_pos (by rw [h.nv]; omega), Int.toNat_natCast]
      by_cases h1 : 1 ≤ v
      · left
        have hlt : (v - 1).toNat < (E.vars.getD j []).length := by simp only at hl; omega
        have hc := h.cells j hj _ hlt
        rw [hg] at hc
        refine ⟨_, ?_, hc⟩
        rw [if_pos (by omega)]
      · right
        rw [if_neg (by omega)]
    · cases hk
theorem opK_pos {op k : Int} {ps : List Int} (h : opK op ps = (k, 0)) : k = opTo op ∧ ∀ p ∈ ps, p = (if opOf op = -1 then ps.getD 0 0 else opOf op) := by
  unfold opK at h
  by_cases hall : ps.all (fun p => p == (if opOf op = -1 then ps.getD 0 0 else opOf op)) = true
  · rw [if_pos hall] at h
    injection h with h _
    exact ⟨h.symm, fun p hp => by simpa using List.all_eq_true.1 hall p hp⟩
  · rw [if_neg hall] at h
    cases h
theorem had_some (x : Int) : hadF ((some x).getD 0) (some x).isSome 10 = (x, 0) := rfl
/-- What comes of a node fits its kind, or can't be had. -/
theorem node_fits {S : Sc} {E : Ev} (h : EF S E) {op n k : Int} {ks vs : List Int} (hk : nodeK S (op, n) ks = (k, 0)) (ht : takesZ op = ks.length) (hl : vs.length = ks.length) (hf : ∀ i, i < ks.length → FitK S.sizes (ks.getD i 0) (vs.getD i 0)) : Fits1 S.sizes k (nodeV E (op, n) vs) := by
  by_cases h1 : op = 1
  · subst h1
    have e : nodeK S (1, n) ks = (0, (hadF n (fitB n (-1048576) 1048576) 10).2) := rfl
    rw [e] at hk
    show Fits1 S.sizes k (hadF n (fitB n (-1048576) 1048576) 10)
    cases hb : fitB n (-1048576) 1048576 with
    | false => rw [hb] at hk; cases hk
    | true =>
      injection hk with hk _
      have := of_decide_eq_true hb
      exact .inl ⟨n, rfl, .inl ⟨hk.symm, by omega, by omega⟩⟩
  by_cases h2 : op = 2
  · subst h2
    exact fits_plain h hk
  by_cases h3 : op = 3
  · subst h3
    have hl1 : ks.length = 1 := by have : takesZ 3 = 1 := rfl; omega
    exact fits_item h hk (hf 0 (by omega))
  by_cases h4 : op = 4
  · subst h4
    exact fits_local h hk
  by_cases h5 : op = 5
  · subst h5
    have e : nodeK S (5, n) ks = if 1 ≤ S.self ∧ S.self ≤ S.sizes.length then (1 + S.self, 0) else (0, 8) := rfl
    rw [e] at hk
    split at hk
    · next hs =>
      injection hk with hk _
      have := h.self hs.1 hs.2
      exact .inl ⟨E.self, rfl, .inr (.inr ⟨(S.self - 1).toNat, by omega, by omega, this.1, this.2⟩)⟩
    · cases hk
  by_cases h6 : op = 6
  · subst h6
    have e : nodeK S (6, n) ks = hadF 0 (chanB S.sizes.length S.chans n) 8 := rfl
    rw [e] at hk
    cases hb : chanB S.sizes.length S.chans n with
    | false => rw [hb] at hk; cases hk
    | true =>
      rw [hb] at hk
      injection hk with hk _
      have hc := of_decide_eq_true hb
      obtain ⟨j, rfl⟩ : ∃ j : Nat, n = j := ⟨n.toNat, by omega⟩
      have hle := h.lens j (by omega)
      left
      refine ⟨E.lens.getD j 0, ?_, .inl ⟨hk.symm, hle.1, hle.2⟩⟩
      show cellV E.lens j = _
      unfold cellV
      rw [if_pos (by rw [h.nc]; omega), Int.toNat_natCast]
  by_cases h7 : op = 7
  · subst h7
    have e : nodeK S (7, n) ks = hadF 0 (locB S.procs n) 8 := rfl
    rw [e] at hk
    cases hb : locB S.procs n with
    | false => rw [hb] at hk; cases hk
    | true =>
      rw [hb] at hk
      injection hk with hk _
      have hc := of_decide_eq_true hb
      obtain ⟨j, hj⟩ : ∃ j : Nat, n / 16 = j := ⟨(n / 16).toNat, by omega⟩
      obtain ⟨r, hr⟩ : ∃ r : Nat, n % 16 = r := ⟨(n % 16).toNat, by omega⟩
      rw [hj, hr, Int.toNat_natCast] at hc
      obtain ⟨a1, a2, a3⟩ := h.at_ j (by omega) r hc.2.2
      left
      refine ⟨_, ?_, .inl ⟨hk.symm, a2, a3⟩⟩
      show cellV (rowV E.at_ (n.tdiv 16)) (n.tmod 16) = _
      rw [Int.tdiv_eq_ediv_of_nonneg hc.1, Int.tmod_eq_emod_of_nonneg hc.1, hj, hr]
      unfold rowV
      rw [if_pos (by rw [h.np]; omega), Int.toNat_natCast]
      unfold cellV
      rw [if_pos (by omega), Int.toNat_natCast]
  by_cases h8 : op = 8
  · subst h8
    have e : nodeK S (8, n) ks = noneK S.sizes.length n := rfl
    rw [e] at hk
    unfold noneK at hk
    split at hk
    · next hs =>
      injection hk with hk _
      exact .inl ⟨0, rfl, .inr (.inr ⟨n.toNat, by omega, by omega, Int.le_refl _, h.sz _ (by omega)⟩)⟩
    · cases hk
  have e : nodeK S (op, n) ks = opK op ks := by
    unfold nodeK
    simp only
    rw [if_neg h1, if_neg h2, if_neg h3, if_neg h4, if_neg h5, if_neg h6, if_neg h7, if_neg h8]
  have e2 : nodeV E (op, n) vs = doneV op vs := by
    unfold nodeV
    simp only
    rw [if_neg h1, if_neg h2, if_neg h3, if_neg h4, if_neg h5, if_neg h6, if_neg h7, if_neg h8]
  rw [e] at hk
  rw [e2]
  obtain ⟨rfl, hall⟩ := opK_pos hk
  have hc : (op = 9 ∨ op = 10) ∧ ks.length = 1 ∨ (11 ≤ op ∧ op ≤ 19) ∧ ks.length = 2 := by
    unfold takesZ at ht
    split at ht
    · left; omega
    · split at ht
      · right; omega
      · split at ht <;> omega
  unfold doneV
  rcases hc with ⟨hop, hlen⟩ | ⟨hop, hlen⟩
  · match vs, hl.trans hlen with
    | [v], _ =>
      rcases hop with rfl | rfl
      · exact .inl ⟨truthZ (askB 9 0 v), rfl, truth_fits _ _⟩
      · exact told_fits _ _ _ _
  · match vs, hl.trans hlen with
    | [a, b], _ =>
      have hcc : op = 11 ∨ op = 12 ∨ op = 13 ∨ 14 ≤ op := by omega
      rcases hcc with rfl | rfl | rfl | h14
      · exact told_fits _ _ _ _
      · exact told_fits _ _ _ _
      · exact told_fits _ _ _ _
      · have ev : valV op a b = some (truthZ (askB op a b)) := by
          unfold valV
          rw [if_neg (by omega), if_neg (by omega), if_neg (by omega)]
        have eo : opTo op = 1 := by unfold opTo; rw [if_pos (by omega)]
        rw [eo]
        left
        refine ⟨truthZ (askB op a b), ?_, truth_fits _ _⟩
        show hadF ((valV op a b).getD 0) (valV op a b).isSome 10 = _
        rw [ev]
        rfl
/-- .. and so of all nodes. -/
theorem run_fits {S : Sc} {E : Ev} (h : EF S E) {most : Int} : ∀ (e : List (Int × Int)) (j : Nat) (ks vs : List Int) (k : Int), vs.length = ks.length → (∀ i, i < ks.length → FitK S.sizes (ks.getD i 0) (vs.getD i 0)) → runF (fun _ => nodeK S) most j e ks = (k, 0) → Fits1 S.sizes k (runF (fun _ => nodeV E) most j e vs)
  | [], j, ks, vs, k, hl, hf, hk => by
    rw [runF_end] at hk ⊢
    split at hk
    · cases hk
    · next h0 =>
      split at hk
      · cases hk
      · next h1 =>
        injection hk with hk _
        rw [hl, if_neg h0, if_neg h1]
        exact .inl ⟨_, rfl, by rw [← hk]; exact hf 0 (by omega)⟩
  | nd :: e, j, ks, vs, k, hl, hf, hk => by
    obtain ⟨op, n⟩ := nd
    unfold runF at hk ⊢
    split at hk
    · cases hk
    · next h1 =>
      split at hk
      · cases hk
      · next h2 =>
        simp only at hk h1 h2 ⊢
        rw [if_neg h1, hl, if_neg h2]
        obtain ⟨t, ht⟩ : ∃ t : Nat, takesZ op = t := ⟨(takesZ op).toNat, by omega⟩
        rw [ht, Int.toNat_natCast] at hk
        rw [ht, Int.toNat_natCast]
        have htl : t ≤ ks.length := by omega
        obtain ⟨a, b, hab⟩ : ∃ a b, nodeK S (op, n) (ks.drop (ks.length - t)) = (a, b) := ⟨_, _, rfl⟩
        rw [hab] at hk
        simp only at hk
        split at hk
        · next hb => injection hk with _ hk; exact absurd hk hb
        · next hb =>
          have hb0 : b = 0 := by omega
          subst hb0
          have hnf := node_fits (E := E) (vs := vs.drop (ks.length - t)) h hab (by rw [ht]; simp; try omega) (by simp [hl]) (fun i hi => by
            simp only [List.length_drop] at hi
            have := hf (ks.length - t + i) (by omega)
            simpa [List.getD] using this)
          split at hk
          · cases hk
          · next h4 =>
            rcases hnf with ⟨x, hx, hfx⟩ | hx
            · rw [hx]
              simp only [ne_eq, not_true_eq_false, if_false]
              have hlen : (vs.take (ks.length - t) ++ [x]).length = (ks.take (ks.length - t) ++ [a]).length := by simp [hl]
              rw [hlen, if_neg h4]
              refine run_fits h e (j + 1) _ _ k hlen (fun i hi => ?_) hk
              simp only [List.length_append, List.length_take, List.length_singleton] at hi
              by_cases hil : i < ks.length - t
              · have h5 := hf i (by omega)
                simp only [List.getD] at h5 ⊢
                rw [List.getElem?_append_left (by rw [List.length_take]; omega), List.getElem?_append_left (by rw [List.length_take]; omega), List.getElem?_take, List.getElem?_take, if_pos hil, if_pos hil]
                exact h5
              · have hie : i = ks.length - t := by omega
                subst hie
                simp only [List.getD]
                rw [List.getElem?_append_right (by rw [List.length_take]; omega), List.getElem?_append_right (by rw [List.length_take]; omega)]
                have z1 : (List.take (ks.length - t) ks).length = ks.length - t := by rw [List.length_take]; omega
                have z2 : (List.take (ks.length - t) vs).length = ks.length - t := by rw [List.length_take, hl]; omega
                rw [z1, z2, Nat.sub_self]
                exact hfx
            · rw [hx]
              right
              rw [if_pos (by decide)]
/-- P10.4: what has a kind in a scope has a value of that kind, or none that can be had. -/
theorem eval_fits {S : Sc} {E : Ev} (h : EF S E) {e : List (Int × Int)} {k : Int} (hk : kindF S e = (k, 0)) (evF : Int × Int) (hev : evF = if 24 < e.length then (0, 5) else runF (fun _ => nodeV E) 12 0 e []) : Fits1 S.sizes k evF := by
  unfold kindF at hk
  split at hk
  · cases hk
  · next h24 =>
    rw [hev, if_neg h24]
    exact run_fits h e 0 [] [] k rfl (fun i hi => absurd hi (by simp)) hk
end Go.Proofs.YtodloljpfbkkjaaRRRR
