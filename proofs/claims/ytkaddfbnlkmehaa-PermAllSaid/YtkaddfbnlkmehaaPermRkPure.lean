/- Ranks of permutations there and back: plain facts. -/
import Derived.Test.YtkaddfbnlkmehaaPermPure
namespace Go.Proofs.Ytkaddfbnlkmehaa

/-- The numbers below n that are not in L, rising. -/
def lft (L : List Int) (n : Nat) : List Int := (ups n).filter fun x => decide (x ∉ L)
theorem lft_succ (L : List Int) (n : Nat) : lft L (n + 1) = if (n : Int) ∈ L then lft L n else lft L n ++ [(n : Int)] := by
  unfold lft
  rw [ups_succ, List.filter_append]
  by_cases h : (n : Int) ∈ L
  · rw [if_pos h]; simp [h]
  · rw [if_neg h]; simp [h]
theorem lft_prefix (L : List Int) {n m : Nat} (h : n ≤ m) : lft L n <+: lft L m := by
  induction m with
  | zero => obtain rfl : n = 0 := by omega
            exact List.prefix_refl _
  | succ m ih =>
    by_cases e : n = m + 1
    · subst e; exact List.prefix_refl _
    · refine (ih (by omega)).trans ?_
      rw [lft_succ]
      split
      · exact List.prefix_refl _
      · exact List.prefix_append _ _
theorem lft_length (L : List Int) (n : Nat) : (lft L n).length ≤ n := by
  have := List.length_filter_le (fun x => decide (x ∉ L)) (ups n)
  rw [ups_length] at this
  exact this
theorem lft_mem {L : List Int} {n : Nat} {x : Int} : x ∈ lft L n ↔ (0 ≤ x ∧ x < n) ∧ x ∉ L := by
  unfold lft
  rw [List.mem_filter, ups_mem, decide_eq_true_iff]
theorem lft_nodup (L : List Int) (n : Nat) : (lft L n).Nodup := (ups_nodup n).sublist List.filter_sublist
theorem lft_nil (n : Nat) : lft [] n = ups n := by
  unfold lft
  rw [List.filter_eq_self]
  simp
/-- Where x stands among them. -/
theorem lft_at {L : List Int} {n x : Nat} (hx : x < n) (hL : (x : Int) ∉ L) : (lft L n).getD (lft L x).length 0 = x ∧ (lft L x).length < (lft L n).length := by
  have h1 := lft_prefix L (show x + 1 ≤ n by omega)
  rw [lft_succ, if_neg hL] at h1
  obtain ⟨t, ht⟩ := h1
  rw [← ht]
  constructor
  · simp [List.getD]
  · simp
/-- So many are left. -/
theorem lft_count {L : List Int} {n : Nat} (hd : L.Nodup) (hr : ∀ x ∈ L, 0 ≤ x ∧ x < n) : (lft L n).length + L.length = n := by
  have hp : (lft L n ++ L).Perm (ups n) := by
    refine (nd_perm _ _ (ups_nodup n) (fun x hx => ?_) ?_).symm
    · rw [List.mem_append, lft_mem]
      by_cases h : x ∈ L
      · exact .inr h
      · exact .inl ⟨ups_mem.1 hx, h⟩
    · have h1 := nd_len (ups n) (lft L n ++ L) (ups_nodup n) (fun x hx => by
        rw [List.mem_append, lft_mem]
        by_cases h : x ∈ L
        · exact .inr h
        · exact .inl ⟨ups_mem.1 hx, h⟩)
      have h2 := nd_len (lft L n ++ L) (ups n) (List.nodup_append.2 ⟨lft_nodup L n, hd, fun a ha b hb e => (lft_mem.1 ha).2 (e ▸ hb)⟩) (fun x hx => by
        rcases List.mem_append.1 hx with h | h
        · exact ups_mem.2 (lft_mem.1 h).1
        · exact ups_mem.2 (hr x h))
      omega
  have := hp.length_eq
  rw [List.length_append, ups_length] at this
  exact this

/-- How many lesser numbers could stand at place k. -/
def dg (p : List Int) (k : Nat) : Nat := (lft (p.take k) (p.getD k 0).toNat).length
def rk (p : List Int) : Nat → Nat
  | 0 => 0
  | k + 1 => rk p k * (p.length - k) + dg p k
def fct : Nat → Nat
  | 0 => 1
  | n + 1 => (n + 1) * fct n
theorem fct_pos : ∀ n, 0 < fct n
  | 0 => by decide
  | n + 1 => Nat.mul_pos (by omega) (fct_pos n)
theorem fct_step {n k : Nat} (h : k < n) : fct (n - k) = (n - k) * fct (n - 1 - k) := by
  obtain ⟨m, e⟩ : ∃ m, n - k = m + 1 := ⟨n - k - 1, by omega⟩
  rw [e, show n - 1 - k = m by omega, fct]
theorem fct_le {n : Nat} (h : n ≤ 8) : fct n ≤ 40320 := by
  have : ∀ n, n < 9 → fct n ≤ 40320 := by decide
  exact this n (by omega)

theorem Prm.take_nodup {p : List Int} (h : Prm p) (k : Nat) : (p.take k).Nodup := h.nd.sublist (List.take_sublist _ _)
theorem Prm.take_range {p : List Int} (h : Prm p) (k : Nat) : ∀ x ∈ p.take k, 0 ≤ x ∧ x < p.length := fun x hx => h.rg x (List.mem_of_mem_take hx)
theorem dg_lt {p : List Int} (h : Prm p) {k : Nat} (hk : k < p.length) : dg p k < p.length - k := by
  have h1 := h.at_ hk
  have h2 := lft_count (h.take_nodup k) (h.take_range k)
  rw [List.length_take] at h2
  have h3 := (lft_at (L := p.take k) (n := p.length) (x := (p.getD k 0).toNat) (by omega) (by
    rw [show (((p.getD k 0).toNat : Nat) : Int) = p.getD k 0 by omega]
    exact nodup_at h.nd hk)).2
  unfold dg
  omega
theorem rk_bound {p : List Int} (h : Prm p) : ∀ k, k ≤ p.length → (rk p k + 1) * fct (p.length - k) ≤ fct p.length
  | 0, _ => by simp [rk]
  | k + 1, hk => by
    have ih := rk_bound h k (by omega)
    have hd := dg_lt h (k := k) (by omega)
    rw [fct_step (show k < p.length by omega)] at ih
    rw [rk, show p.length - (k + 1) = p.length - 1 - k by omega]
    refine Nat.le_trans ?_ ih
    rw [← Nat.mul_assoc]
    refine Nat.mul_le_mul_right _ ?_
    rw [Nat.succ_mul]
    omega
theorem rk_lt {p : List Int} (h : Prm p) {k : Nat} (hk : k ≤ p.length) : rk p k < fct p.length := by
  have h1 := rk_bound h k hk
  have h2 := Nat.mul_le_mul_left (rk p k + 1) (show 1 ≤ fct (p.length - k) from fct_pos _)
  omega
theorem rk_small {p : List Int} (h : Prm p) {k : Nat} (hk : k ≤ p.length) : rk p k < 40320 := Nat.lt_of_lt_of_le (rk_lt h hk) (fct_le h.len)

/-- The document's way: how many of those behind are less. -/
def lsn (p : List Int) (k : Nat) : Nat → Nat
  | 0 => 0
  | j + 1 => lsn p k j + if p.getD (k + 1 + j) 0 < p.getD k 0 then 1 else 0
def rr (p : List Int) : Nat → Nat
  | 0 => 0
  | k + 1 => rr p k + lsn p k (p.length - 1 - k) * fct (p.length - 1 - k)
theorem lsn_le (p : List Int) (k : Nat) : ∀ j, lsn p k j ≤ j
  | 0 => Nat.le_refl _
  | j + 1 => by have := lsn_le p k j; rw [lsn]; split <;> omega
theorem lsn_filter (p : List Int) (k : Nat) : ∀ j, k + 1 + j ≤ p.length → lsn p k j = (((p.drop (k + 1)).take j).filter fun x => decide (x < p.getD k 0)).length
  | 0, _ => by simp [lsn]
  | j + 1, h => by
    have hj : j < (p.drop (k + 1)).length := by rw [List.length_drop]; omega
    rw [lsn, lsn_filter p k j (by omega), List.take_succ_eq_append_getElem hj, List.filter_append, List.length_append]
    have e : (p.drop (k + 1))[j] = p.getD (k + 1 + j) 0 := by simp [List.getD, show k + 1 + j < p.length by omega]
    rw [e]
    generalize p.getD (k + 1 + j) 0 = u
    generalize p.getD k 0 = v
    by_cases h2 : u < v
    · rw [if_pos h2]; simp [h2]
    · rw [if_neg h2]; simp [h2]
theorem dg_ls {p : List Int} (h : Prm p) {k : Nat} (hk : k < p.length) : dg p k = lsn p k (p.length - 1 - k) := by
  rw [lsn_filter p k _ (by omega), List.take_of_length_le (by rw [List.length_drop]; omega)]
  unfold dg
  have h1 := h.at_ hk
  have hsplit : p = p.take k ++ (p.getD k 0 :: p.drop (k + 1)) := by
    have e2 : p.drop k = p.getD k 0 :: p.drop (k + 1) := by rw [List.drop_eq_getElem_cons hk]; simp [List.getD, hk]
    rw [← e2, List.take_append_drop]
  have hnd := h.nd
  have hd2 : (p.drop (k + 1)).Nodup := h.nd.sublist (List.drop_sublist _ _)
  refine Nat.le_antisymm (nd_len _ _ (lft_nodup _ _) fun x hx => ?_) (nd_len _ _ (hd2.sublist List.filter_sublist) fun x hx => ?_)
  · have hm := lft_mem.1 hx
    rw [List.mem_filter, decide_eq_true_iff]
    have hp : x ∈ p := h.perm.mem_iff.2 (ups_mem.2 (by omega))
    rw [hsplit, List.mem_append, List.mem_cons] at hp
    rcases hp with hp | hp | hp
    · exact absurd hp hm.2
    · omega
    · exact ⟨hp, by omega⟩
  · rw [List.mem_filter, decide_eq_true_iff] at hx
    have hr := h.rg x (List.mem_of_mem_drop hx.1)
    refine lft_mem.2 ⟨by omega, fun ht => ?_⟩
    have hno : (p.take k ++ (p.getD k 0 :: p.drop (k + 1))).Nodup := by rw [← hsplit]; exact hnd
    exact (List.nodup_append.1 hno).2.2 x ht x (by simp [hx.1]) rfl
theorem rk_rr {p : List Int} (h : Prm p) : ∀ k, k ≤ p.length → rk p k * fct (p.length - k) = rr p k * 1
  | 0, _ => by simp [rk, rr]
  | k + 1, hk => by
    have ih := rk_rr h k (by omega)
    rw [fct_step (show k < p.length by omega), ← Nat.mul_assoc] at ih
    rw [rk, rr, ← dg_ls h (by omega), show p.length - (k + 1) = p.length - 1 - k by omega, Nat.add_mul, ih]
    omega
theorem rk_full {p : List Int} (h : Prm p) : rr p p.length = rk p p.length := by
  have := rk_rr h p.length (Nat.le_refl _)
  rw [Nat.sub_self] at this
  simp [fct] at this
  exact this.symm
theorem rr_mono (p : List Int) {j k : Nat} (h : j ≤ k) : rr p j ≤ rr p k := by
  induction k with
  | zero => obtain rfl : j = 0 := by omega
            exact Nat.le_refl _
  | succ k ih =>
    by_cases e : j = k + 1
    · subst e; exact Nat.le_refl _
    · have := ih (by omega)
      rw [rr]; omega

/-- The digits of K, and what they pick. -/
def dgs (n K i : Nat) : Nat := (K / fct (n - 1 - i)) % (n - i)
def uns (n K : Nat) : Nat → List Int
  | 0 => []
  | i + 1 => uns n K i ++ [(lft (uns n K i) n).getD (dgs n K i) 0]
theorem uns_length (n K : Nat) : ∀ i, (uns n K i).length = i
  | 0 => rfl
  | i + 1 => by rw [uns, List.length_append, uns_length n K i]; rfl
theorem dgs_lt {n K i : Nat} (h : i < n) : dgs n K i < n - i := Nat.mod_lt _ (by omega)
theorem getD_mem {l : List Int} {i : Nat} (h : i < l.length) : l.getD i 0 ∈ l := by
  have e : l.getD i 0 = l[i] := by simp [List.getD, h]
  rw [e]; exact List.getElem_mem h
theorem uns_ok {n : Nat} (K : Nat) : ∀ i, i ≤ n → (uns n K i).Nodup ∧ (∀ x ∈ uns n K i, 0 ≤ x ∧ x < n) ∧ (lft (uns n K i) n).length = n - i
  | 0, _ => ⟨List.nodup_nil, by simp [uns], by rw [uns, lft_nil, ups_length]; rfl⟩
  | i + 1, h => by
    obtain ⟨h1, h2, h3⟩ := uns_ok (n := n) K i (by omega)
    have hd := dgs_lt (n := n) (K := K) (i := i) (by omega)
    have hm := lft_mem.1 (getD_mem (l := lft (uns n K i) n) (i := dgs n K i) (by omega))
    have k1 : (uns n K (i + 1)).Nodup := by
      rw [uns]
      exact List.nodup_append.2 ⟨h1, by simp, fun a ha b hb e => hm.2 (by rw [List.mem_singleton] at hb; subst hb; subst e; exact ha)⟩
    have k2 : ∀ x ∈ uns n K (i + 1), 0 ≤ x ∧ x < n := by
      intro x hx
      rw [uns, List.mem_append, List.mem_singleton] at hx
      rcases hx with hx | rfl
      · exact h2 x hx
      · exact hm.1
    refine ⟨k1, k2, ?_⟩
    have := lft_count k1 k2
    rw [uns_length] at this
    omega
theorem uns_prm {n : Nat} (K : Nat) (h : n ≤ 8) : Prm (uns n K n) := by
  obtain ⟨h1, h2, _⟩ := uns_ok K n (Nat.le_refl n)
  exact ⟨by rw [uns_length]; exact h, h1, fun x hx => by rw [uns_length]; exact h2 x hx⟩
theorem uns_take (n K : Nat) : ∀ {i j : Nat}, i ≤ j → (uns n K j).take i = uns n K i := by
  intro i j h
  induction j with
  | zero => obtain rfl : i = 0 := by omega
            rfl
  | succ j ih =>
    by_cases e : i = j + 1
    · subst e; rw [List.take_of_length_le (by rw [uns_length]; exact Nat.le_refl _)]
    · rw [uns, List.take_append_of_le_length (by rw [uns_length]; omega), ih (by omega)]
theorem uns_at {n K i : Nat} (h : i < n) : (uns n K n).getD i 0 = (lft (uns n K i) n).getD (dgs n K i) 0 := by
  have h1 : (uns n K n).getD i 0 = (uns n K (i + 1)).getD i 0 := by
    rw [← uns_take n K (i := i + 1) (j := n) (by omega)]
    simp only [List.getD]
    rw [List.getElem?_take_of_lt (show i < i + 1 by omega)]
  rw [h1, uns]
  simp [List.getD, uns_length]
theorem fct_div {n k : Nat} (K : Nat) (h : k < n) : K / fct (n - k) = K / fct (n - 1 - k) / (n - k) := by
  rw [fct_step h, Nat.mul_comm, Nat.div_div_eq_div_mul]
theorem dg_uns {n K i : Nat} (h : i < n) : dg (uns n K n) i = dgs n K i := by
  obtain ⟨h1, h2, h3⟩ := uns_ok (n := n) K i (by omega)
  have hd := dgs_lt (n := n) (K := K) (i := i) h
  have hm := lft_mem.1 (getD_mem (l := lft (uns n K i) n) (i := dgs n K i) (by omega))
  unfold dg
  rw [uns_take n K (show i ≤ n by omega), uns_at h]
  have ha := lft_at (L := uns n K i) (n := n) (x := ((lft (uns n K i) n).getD (dgs n K i) 0).toNat) (by omega) (by
    rw [show ((((lft (uns n K i) n).getD (dgs n K i) 0).toNat : Nat) : Int) = (lft (uns n K i) n).getD (dgs n K i) 0 by omega]
    exact hm.2)
  refine nodup_getD_inj (lft_nodup _ _) ha.2 (by omega) ?_
  rw [ha.1]
  omega
/-- A rank leads to a permutation that has it. -/
theorem rk_uns {n K : Nat} (hK : K < fct n) : ∀ k, k ≤ n → rk (uns n K n) k = K / fct (n - k)
  | 0, _ => by rw [rk, Nat.sub_zero, Nat.div_eq_of_lt hK]
  | k + 1, h => by
    rw [rk, rk_uns hK k (by omega), dg_uns (by omega), uns_length, fct_div K (show k < n by omega), dgs, show n - (k + 1) = n - 1 - k by omega]
    exact Nat.div_add_mod' _ _
theorem rk_uns_full {n K : Nat} (hK : K < fct n) : rk (uns n K n) n = K := by
  rw [rk_uns hK n (Nat.le_refl _), Nat.sub_self]
  simp [fct]
theorem rk_div {p : List Int} (h : Prm p) : ∀ j, j ≤ p.length → rk p p.length / fct j = rk p (p.length - j)
  | 0, _ => by simp [fct]
  | j + 1, hj => by
    have ih := rk_div h j (by omega)
    have hd := dg_lt h (k := p.length - (j + 1)) (by omega)
    rw [fct, Nat.mul_comm, ← Nat.div_div_eq_div_mul, ih, show p.length - j = (p.length - (j + 1)) + 1 by omega, rk, show p.length - (p.length - (j + 1)) = j + 1 by omega]
    rw [show p.length - (p.length - (j + 1)) = j + 1 by omega] at hd
    rw [Nat.add_comm, Nat.add_mul_div_right _ _ (by omega), Nat.div_eq_of_lt hd, Nat.zero_add]
theorem dgs_rk {p : List Int} (h : Prm p) {i : Nat} (hi : i < p.length) : dgs p.length (rk p p.length) i = dg p i := by
  have hd := dg_lt h hi
  rw [dgs, rk_div h _ (by omega), show p.length - (p.length - 1 - i) = i + 1 by omega, rk, Nat.add_comm, Nat.add_mul_mod_self_right, Nat.mod_eq_of_lt hd]
/-- A permutation comes back of its rank. -/
theorem uns_rk {p : List Int} (h : Prm p) : ∀ i, i ≤ p.length → uns p.length (rk p p.length) i = p.take i
  | 0, _ => by simp [uns]
  | i + 1, hi => by
    have h1 := h.at_ (i := i) (by omega)
    have ha := (lft_at (L := p.take i) (n := p.length) (x := (p.getD i 0).toNat) (by omega) (by
      rw [show (((p.getD i 0).toNat : Nat) : Int) = p.getD i 0 by omega]
      exact nodup_at h.nd (by omega))).1
    rw [uns, uns_rk h i (by omega), dgs_rk h (by omega), take_next (by omega)]
    unfold dg
    rw [ha]
    congr 2
    omega
theorem uns_rk_full {p : List Int} (h : Prm p) : uns p.length (rk p p.length) p.length = p := by
  rw [uns_rk h _ (Nat.le_refl _), List.take_of_length_le (Nat.le_refl _)]

/-- What is left when the d-th is taken. -/
theorem lft_erase {L : List Int} {n d : Nat} (h : d < (lft L n).length) : (lft L n).take d ++ (lft L n).drop (d + 1) = lft (L ++ [(lft L n).getD d 0]) n := by
  have hn := lft_nodup L n
  have e1 : lft (L ++ [(lft L n).getD d 0]) n = (lft L n).filter fun x => decide (x ≠ (lft L n).getD d 0) := by
    conv => rhs; arg 2; unfold lft
    rw [List.filter_filter]
    unfold lft
    refine List.filter_congr fun x _ => ?_
    rw [Bool.eq_iff_iff]
    simp
    exact And.comm
  rw [e1]
  generalize lft L n = l at h hn
  have hs : l = l.take d ++ (l.getD d 0 :: l.drop (d + 1)) := by
    have e2 : l.drop d = l.getD d 0 :: l.drop (d + 1) := by rw [List.drop_eq_getElem_cons h]; simp [List.getD, h]
    rw [← e2, List.take_append_drop]
  generalize l.getD d 0 = x at hs ⊢
  generalize l.take d = a at hs ⊢
  generalize l.drop (d + 1) = b at hs ⊢
  subst hs
  have h2 := List.nodup_append.1 hn
  have h3 := List.nodup_cons.1 h2.2.1
  rw [List.filter_append, List.filter_cons_of_neg (by simp), List.filter_eq_self.2, List.filter_eq_self.2]
  · intro y hy
    simp only [ne_eq, decide_not, Bool.not_eq_eq_eq_not, Bool.not_true, decide_eq_false_iff_not]
    intro e; subst e; exact h3.1 hy
  · intro y hy
    simp only [ne_eq, decide_not, Bool.not_eq_eq_eq_not, Bool.not_true, decide_eq_false_iff_not]
    intro e; subst e; exact h2.2.2 y hy y (by simp) rfl
theorem dgs_mod {n i : Nat} (K : Nat) (h : i < n) : (K % fct (n - i)) / fct (n - 1 - i) = dgs n K i := by
  rw [fct_step h, dgs, Nat.mod_mul_left_div_self]
theorem mod_mod {n i : Nat} (K : Nat) (h : i < n) : (K % fct (n - i)) % fct (n - 1 - i) = K % fct (n - 1 - i) := by
  rw [fct_step h, Nat.mod_mod_of_dvd _ (Nat.dvd_mul_left _ _)]
end Go.Proofs.Ytkaddfbnlkmehaa
