/- The shortest way to write a word that goes on for ever, plain. Nothing here speaks of the program. -/
import Derived.Test.YtophajljjnjcdaaWdPure
namespace Go.Proofs.Ytophajljjnjcdaa.wd
open lt nf

/-- The set at a place. -/
def atF (st lp : List Int) (i : Int) : Int := if i < 0 then 0 else if i.toNat < st.length then st.getD i.toNat 0 else if lp.length = 0 then 0 else lp.getD ((i.toNat - st.length) % lp.length) 0
theorem at_sets {st lp : List Int} {k : Nat} (h : k < st.length + lp.length) : atF st lp (k : Int) = (st ++ lp).getD k 0 := by
  unfold atF
  rw [if_neg (by omega), Int.toNat_natCast]
  by_cases h1 : k < st.length
  · rw [if_pos h1]
    simp [List.getD, List.getElem?_append_left h1]
  · rw [if_neg h1, if_neg (by omega), Nat.mod_eq_of_lt (by omega)]
    simp [List.getD, List.getElem?_append_right (Nat.le_of_not_lt h1)]
theorem at_in {st lp : List Int} {k : Nat} (h : k < st.length) : atF st lp (k : Int) = st.getD k 0 := by
  unfold atF
  rw [if_neg (by omega), Int.toNat_natCast, if_pos h]
theorem at_loop {st lp : List Int} {k : Nat} (h : st.length ≤ k) (h0 : 0 < lp.length) : atF st lp (k : Int) = lp.getD ((k - st.length) % lp.length) 0 := by
  unfold atF
  rw [if_neg (by omega), Int.toNat_natCast, if_neg (by omega), if_neg (by omega)]
theorem at_plc {st lp : List Int} (h0 : 0 < lp.length) (k : Nat) : (st ++ lp).getD (plc st.length (st ++ lp).length k) 0 = atF st lp (k : Int) := by
  by_cases h : k < (st ++ lp).length
  · rw [plc_id h]
    rw [List.length_append] at h
    exact (at_sets h).symm
  · have hl : (st ++ lp).length = st.length + lp.length := List.length_append
    unfold plc
    rw [if_neg h, at_loop (by omega) h0, hl, Nat.add_sub_cancel_left]
    simp [List.getD, List.getElem?_append_right (show st.length ≤ st.length + (k - st.length) % lp.length by omega)]
/-- Does a list come again after p? -/
def perOk (l : List Int) (p : Nat) : Bool := decide (l.length % p = 0) && decide (l.drop p = l.take (l.length - p))
def perG (l : List Int) : Nat → Nat → Nat
  | 0, _ => l.length
  | f + 1, k => if perOk l k = true then k else perG l f (k + 1)
def perF (l : List Int) : Nat := perG l (l.length - 1) 1
theorem perG_spec (l : List Int) : ∀ f k, 1 ≤ k → k + f = l.length → (∀ q, 1 ≤ q → q < k → perOk l q = false) → 1 ≤ perG l f k ∧ perG l f k ≤ l.length ∧ (perG l f k < l.length → perOk l (perG l f k) = true) ∧ ∀ q, 1 ≤ q → q < perG l f k → perOk l q = false
  | 0, k, h1, h2, h3 => ⟨by show 1 ≤ l.length; omega, Nat.le_refl _, fun h => absurd h (Nat.lt_irrefl _), fun q q1 q2 => h3 q q1 (by have : q < l.length := q2; omega)⟩
  | f + 1, k, h1, h2, h3 => by
    unfold perG
    by_cases h : perOk l k = true
    · rw [if_pos h]
      exact ⟨h1, by omega, fun _ => h, h3⟩
    · rw [if_neg h]
      refine perG_spec l f (k + 1) (by omega) (by omega) (fun q q1 q2 => ?_)
      by_cases hq : q = k
      · subst hq; simpa using h
      · exact h3 q q1 (by omega)
theorem perF_spec {l : List Int} (h : 0 < l.length) : 1 ≤ perF l ∧ perF l ≤ l.length ∧ (perF l < l.length → perOk l (perF l) = true) ∧ ∀ q, 1 ≤ q → q < perF l → perOk l q = false :=
  perG_spec l (l.length - 1) 1 (Nat.le_refl _) (by omega) (fun q q1 q2 => by omega)
theorem perOk_iff {l : List Int} {p : Nat} (hp : p ≤ l.length) : perOk l p = true ↔ l.length % p = 0 ∧ ∀ i, i + p < l.length → l.getD (i + p) 0 = l.getD i 0 := by
  unfold perOk
  rw [Bool.and_eq_true, decide_eq_true_iff, decide_eq_true_iff]
  refine and_congr_right (fun _ => ?_)
  constructor
  · intro h i hi
    have e := congrArg (fun q => q.getD i 0) h
    simp only [List.getD, List.getElem?_drop, List.getElem?_take] at e
    rw [if_pos (by omega), Nat.add_comm p i] at e
    simpa [List.getD] using e
  · intro h
    apply List.ext_getElem (by simp)
    intro i h1 h2
    have h3 : i + p < l.length := by simp at h1; omega
    have := h i h3
    simp only [List.getD] at this
    rw [List.getElem?_eq_getElem h3, List.getElem?_eq_getElem (by omega)] at this
    rw [List.getElem_drop, List.getElem_take]
    have e : p + i = i + p := Nat.add_comm _ _
    simp only [e]
    simpa using this
theorem per_mod {l : List Int} {q : Nat} (hq : 1 ≤ q) (h : ∀ i, i + q < l.length → l.getD (i + q) 0 = l.getD i 0) : ∀ i, i < l.length → l.getD i 0 = l.getD (i % q) 0 := by
  intro i
  induction i using Nat.strongRecOn with
  | _ i ih =>
    intro hi
    by_cases hlt : i < q
    · rw [Nat.mod_eq_of_lt hlt]
    · have h1 := h (i - q) (by omega)
      rw [Nat.sub_add_cancel (by omega)] at h1
      have e : i % q = (i - q) % q := by
        rw [Nat.mod_eq_sub_mod (by omega)]
      rw [h1, ih (i - q) (by omega) (by omega), e]
/-- The period: it divides the length, and comes again. -/
theorem per_all {l : List Int} (h : 0 < l.length) : l.length % perF l = 0 ∧ ∀ i, i + perF l < l.length → l.getD (i + perF l) 0 = l.getD i 0 := by
  obtain ⟨h1, h2, h3, _⟩ := perF_spec h
  by_cases hl : perF l < l.length
  · exact (perOk_iff h2).1 (h3 hl)
  · have e : perF l = l.length := by omega
    rw [e]
    exact ⟨Nat.mod_self _, fun i hi => by omega⟩

/-- The loop, gone round without end, both ways. -/
def patF (lo : List Int) (z : Int) : Int := lo.getD (z % (lo.length : Int)).toNat 0
theorem pat_nat (lo : List Int) (k : Nat) : patF lo (k : Int) = lo.getD (k % lo.length) 0 := by
  unfold patF
  congr 1
theorem pat_per (lo : List Int) (z : Int) (m : Int) : patF lo (z + m * lo.length) = patF lo z := by
  unfold patF
  rw [Int.add_mul_emod_self_right]
def loF (lp : List Int) : List Int := lp.take (perF lp)
theorem lo_len {lp : List Int} (h : 0 < lp.length) : (loF lp).length = perF lp := by
  have := (perF_spec h).2.1
  unfold loF
  rw [List.length_take]
  omega
theorem lo_get {lp : List Int} {i : Nat} (hi : i < perF lp) : (loF lp).getD i 0 = lp.getD i 0 := by
  unfold loF
  simp [List.getD, List.getElem?_take, hi]
/-- The loop goes round as its period does. -/
theorem loop_pat {lp : List Int} (h : 0 < lp.length) (k : Nat) : lp.getD (k % lp.length) 0 = patF (loF lp) (k : Int) := by
  obtain ⟨p1, p2, _, _⟩ := perF_spec h
  obtain ⟨q1, q2⟩ := per_all h
  rw [pat_nat, lo_len h, lo_get (Nat.mod_lt _ (by omega)), per_mod p1 q2 (k % lp.length) (Nat.mod_lt _ h), Nat.mod_mod_of_dvd _ (Nat.dvd_of_mod_eq_zero q1)]
/-- The loop begun at a place of it. -/
def fromF (lo : List Int) (z : Int) : List Int := lo.drop (z % (lo.length : Int)).toNat ++ lo.take (z % (lo.length : Int)).toNat
theorem from_len (lo : List Int) (z : Int) : (fromF lo z).length = lo.length := by
  unfold fromF
  rw [List.length_append, List.length_drop, List.length_take]
  omega
theorem from_get {lo : List Int} {z : Int} {j : Nat} (hj : j < lo.length) : (fromF lo z).getD j 0 = patF lo (z + j) := by
  have h0 : (0 : Int) < lo.length := by omega
  have hm := Int.emod_nonneg z (show (lo.length : Int) ≠ 0 by omega)
  have hl := Int.emod_lt_of_pos z h0
  have he : (z + j) % (lo.length : Int) = (z % lo.length + j) % lo.length := by rw [Int.emod_add_emod]
  unfold fromF patF
  rw [he]
  obtain ⟨f, hf⟩ : ∃ f : Nat, z % (lo.length : Int) = f := ⟨(z % (lo.length : Int)).toNat, by omega⟩
  rw [hf, Int.toNat_natCast]
  have e2 : (((f : Int) + j) % lo.length).toNat = (f + j) % lo.length := by
    rw [← Int.natCast_add, ← Int.natCast_emod, Int.toNat_natCast]
  rw [e2]
  have hfl : f < lo.length := by omega
  by_cases h1 : j < lo.length - f
  · rw [Nat.mod_eq_of_lt (by omega)]
    simp only [List.getD]
    rw [List.getElem?_append_left (by simp; omega), List.getElem?_drop]
  · have e3 : (f + j) % lo.length = f + j - lo.length := by
      rw [Nat.mod_eq_sub_mod (by omega), Nat.mod_eq_of_lt (by omega)]
    rw [e3]
    simp only [List.getD]
    rw [List.getElem?_append_right (by simp; omega), List.getElem?_take, List.length_drop, if_pos (by omega)]
    congr 2
    omega
theorem from_pat {lo : List Int} (z y : Int) (h : 0 < lo.length) : patF (fromF lo z) y = patF lo (z + y) := by
  have h0 : (0 : Int) < lo.length := by omega
  have hm := Int.emod_nonneg y (show (lo.length : Int) ≠ 0 by omega)
  have hl := Int.emod_lt_of_pos y h0
  have e : patF (fromF lo z) y = (fromF lo z).getD (y % (lo.length : Int)).toNat 0 := by
    unfold patF
    rw [from_len]
  rw [e, from_get (by omega)]
  unfold patF
  congr 2
  have e2 : (((y % (lo.length : Int)).toNat : Nat) : Int) = y % lo.length := by omega
  rw [e2, Int.add_emod_emod]
/-- How much of the stem is left, when its end is rolled into the loop. -/
def rolF (st lo : List Int) (ns : Nat) : Nat → Nat
  | 0 => 0
  | k + 1 => if st.getD k 0 = patF lo ((k : Int) - ns) then rolF st lo ns k else k + 1
theorem rol_spec (st lo : List Int) (ns : Nat) : ∀ k, rolF st lo ns k ≤ k ∧ (∀ j, rolF st lo ns k ≤ j → j < k → st.getD j 0 = patF lo ((j : Int) - ns)) ∧ (∀ j, rolF st lo ns k = j + 1 → st.getD j 0 ≠ patF lo ((j : Int) - ns))
  | 0 => ⟨Nat.le_refl _, fun j _ h => absurd h (Nat.not_lt_zero _), fun j h => by cases h⟩
  | k + 1 => by
    obtain ⟨h1, h2, h3⟩ := rol_spec st lo ns k
    unfold rolF
    by_cases h : st.getD k 0 = patF lo ((k : Int) - ns)
    · rw [if_pos h]
      refine ⟨by omega, fun j j1 j2 => ?_, h3⟩
      by_cases hj : j = k
      · subst hj; exact h
      · exact h2 j j1 (by omega)
    · rw [if_neg h]
      exact ⟨Nat.le_refl _, fun j j1 j2 => by omega, fun j hj => by obtain rfl : k = j := by omega
                                                                    exact h⟩
/-- The shortest way. -/
def nrS (st lp : List Int) : Nat := rolF st (loF lp) st.length st.length
def nrmF (st lp : List Int) : List Int × List Int := if lp.length = 0 then (st, lp) else (st.take (nrS st lp), fromF (loF lp) ((nrS st lp : Int) - st.length))
theorem nrS_def (st lp : List Int) : nrS st lp = rolF st (loF lp) st.length st.length := rfl
theorem from_zero (lo : List Int) : fromF lo 0 = lo := by
  unfold fromF
  rw [Int.zero_emod]
  simp
theorem ext_getD {xs ys : List Int} (hl : xs.length = ys.length) (h : ∀ i, i < xs.length → xs.getD i 0 = ys.getD i 0) : xs = ys := by
  apply List.ext_getElem hl
  intro i h1 h2
  have := h i h1
  simpa [List.getD, h1, h2] using this
theorem nr_le (st lp : List Int) : nrS st lp ≤ st.length := (rol_spec st (loF lp) st.length st.length).1
theorem at_pat {st lp : List Int} (h0 : 0 < lp.length) {k : Nat} (hk : nrS st lp ≤ k) : atF st lp (k : Int) = patF (loF lp) ((k : Int) - st.length) := by
  by_cases h : k < st.length
  · rw [at_in h]
    exact (rol_spec st (loF lp) st.length st.length).2.1 k hk h
  · rw [at_loop (by omega) h0, loop_pat h0]
    congr 1
    omega
theorem nrm_at {st lp : List Int} (h0 : 0 < lp.length) (k : Nat) : atF (nrmF st lp).1 (nrmF st lp).2 (k : Int) = atF st lp (k : Int) := by
  have hr := nr_le st lp
  have hp := (perF_spec h0).1
  unfold nrmF
  rw [if_neg (by omega)]
  dsimp only
  have hl : (st.take (nrS st lp)).length = nrS st lp := by rw [List.length_take]; omega
  have hl2 : (fromF (loF lp) ((nrS st lp : Int) - st.length)).length = perF lp := by rw [from_len, lo_len h0]
  by_cases h : k < nrS st lp
  · rw [at_in (by omega), at_in (by omega)]
    simp [List.getD, List.getElem?_take, h]
  · rw [at_loop (by omega) (by omega), at_pat h0 (by omega), ← pat_nat, hl, from_pat _ _ (by rw [lo_len h0]; omega)]
    congr 1
    omega
theorem nrm_pos {st lp : List Int} (h0 : 0 < lp.length) : 0 < (nrmF st lp).2.length := by
  have hp := (perF_spec h0).1
  unfold nrmF
  rw [if_neg (by omega)]
  dsimp only
  rw [from_len, lo_len h0]
  omega
/-- What begins with the period elsewhere has no shorter one. -/
theorem per_from {lp : List Int} (h0 : 0 < lp.length) (z : Int) : perF (fromF (loF lp) z) = perF lp := by
  obtain ⟨p1, p2, _, p4⟩ := perF_spec h0
  have hl : (fromF (loF lp) z).length = perF lp := by rw [from_len, lo_len h0]
  have hl2 := lo_len h0
  obtain ⟨q1, q2, q3, _⟩ := perF_spec (l := fromF (loF lp) z) (by omega)
  rw [hl] at q2 q3
  generalize hq : perF (fromF (loF lp) z) = q at *
  by_cases hlt : q < perF lp
  · exfalso
    obtain ⟨r1, r2⟩ := (perOk_iff (by omega)).1 (q3 hlt)
    rw [hl] at r1
    have hm := per_mod q1 r2
    -- the loop comes again after q
    have hpat : ∀ y : Int, patF (loF lp) (y + q) = patF (loF lp) y := fun y => by
      have e1 : ∀ x : Int, patF (loF lp) x = (fromF (loF lp) z).getD ((x - z) % (perF lp : Int)).toNat 0 := fun x => by
        have := from_pat (lo := loF lp) z (x - z) (by omega)
        rw [show z + (x - z) = x by omega] at this
        rw [← this]
        unfold patF
        rw [hl]
      have hp0 : (0 : Int) < perF lp := by omega
      have e2 : ∀ x : Int, patF (loF lp) x = (fromF (loF lp) z).getD ((x - z) % (q : Int)).toNat 0 := fun x => by
        have a1 := Int.emod_nonneg (x - z) (show (perF lp : Int) ≠ 0 by omega)
        have a2 := Int.emod_lt_of_pos (x - z) hp0
        rw [e1 x, hm _ (by rw [hl]; omega)]
        congr 1
        have hd : ((q : Int)) ∣ (perF lp : Int) := Int.natCast_dvd_natCast.2 (Nat.dvd_of_mod_eq_zero r1)
        have e3 : (x - z) % (perF lp : Int) % (q : Int) = (x - z) % (q : Int) := Int.emod_emod_of_dvd _ hd
        rw [← e3]
        obtain ⟨b, hb⟩ : ∃ b : Nat, (x - z) % (perF lp : Int) = b := ⟨((x - z) % (perF lp : Int)).toNat, by omega⟩
        rw [hb, Int.toNat_natCast, ← Int.natCast_emod, Int.toNat_natCast]
      rw [e2, e2, show y + q - z = (y - z) + q by omega, Int.add_emod_right]
    have hbad : perOk lp q = true := by
      refine (perOk_iff (by omega)).2 ⟨?_, fun i hi => ?_⟩
      · exact Nat.mod_eq_zero_of_dvd (Nat.dvd_trans (Nat.dvd_of_mod_eq_zero r1) (Nat.dvd_of_mod_eq_zero (per_all h0).1))
      · have e1 := loop_pat h0 (i + q)
        have e2 := loop_pat h0 i
        rw [Nat.mod_eq_of_lt hi] at e1
        rw [Nat.mod_eq_of_lt (by omega)] at e2
        rw [e1, e2, Int.natCast_add, hpat]
    rw [p4 q q1 hlt] at hbad
    cases hbad
  · omega
theorem take_all {α : Type} (l : List α) {n : Nat} (h : n = l.length) : l.take n = l := by subst h; exact List.take_length
/-- The shortest way stays. -/
theorem nrm_nrm (st lp : List Int) : nrmF (nrmF st lp).1 (nrmF st lp).2 = nrmF st lp := by
  by_cases h0 : lp.length = 0
  · have e : nrmF st lp = (st, lp) := if_pos h0
    rw [e]
    exact e
  · have h0 : 0 < lp.length := by omega
    have hp := (perF_spec h0).1
    have hr := nr_le st lp
    have e : nrmF st lp = (st.take (nrS st lp), fromF (loF lp) ((nrS st lp : Int) - st.length)) := if_neg (by omega)
    have hl : (st.take (nrS st lp)).length = nrS st lp := by rw [List.length_take]; omega
    have hl2 : (fromF (loF lp) ((nrS st lp : Int) - st.length)).length = perF lp := by rw [from_len, lo_len h0]
    have hlo : loF (fromF (loF lp) ((nrS st lp : Int) - st.length)) = fromF (loF lp) ((nrS st lp : Int) - st.length) := by
      unfold loF
      exact take_all _ (by
        have := per_from h0 ((nrS st lp : Int) - st.length)
        unfold loF at this hl2
        rw [this, hl2])
    have hs : nrS (st.take (nrS st lp)) (fromF (loF lp) ((nrS st lp : Int) - st.length)) = nrS st lp := by
      have hself : nrS (st.take (nrS st lp)) (fromF (loF lp) ((nrS st lp : Int) - st.length)) = rolF (st.take (nrS st lp)) (fromF (loF lp) ((nrS st lp : Int) - st.length)) (nrS st lp) (nrS st lp) := by
        rw [nrS_def, hlo, hl]
      rw [hself]
      obtain ⟨_, _, k3⟩ := rol_spec st (loF lp) st.length st.length
      have k3 : ∀ j, nrS st lp = j + 1 → st.getD j 0 ≠ patF (loF lp) ((j : Int) - st.length) := k3
      generalize nrS st lp = r at *
      rcases r with _ | j
      · rfl
      · unfold rolF
        rw [if_neg ?_]
        have h5 := k3 j rfl
        rw [from_pat _ _ (by rw [lo_len h0]; omega)]
        have e5 : (st.take (j + 1)).getD j 0 = st.getD j 0 := by simp [List.getD, List.getElem?_take]
        rw [e5, show ((j + 1 : Nat) : Int) - (st.length : Int) + ((j : Int) - ((j + 1 : Nat) : Int)) = (j : Int) - st.length by omega]
        exact h5
    rw [e]
    dsimp only
    unfold nrmF
    rw [if_neg (by omega), hs, hlo, hl, show (nrS st lp : Int) - (nrS st lp : Int) = 0 by omega]
    congr 1
    · exact take_all _ hl.symm
    · exact from_zero _
/-- A word whose loop is gone over once more has the same shortest way. -/
theorem nrm_more {st lp : List Int} (h0 : 0 < lp.length) : nrmF (st ++ lp) lp = nrmF st lp := by
  have hp := (perF_spec h0).1
  have hd : ∃ m : Int, (lp.length : Int) = m * (loF lp).length := by
    obtain ⟨c, hc⟩ := Nat.dvd_of_mod_eq_zero (per_all h0).1
    exact ⟨c, by rw [lo_len h0]; rw [hc]; simp [Int.mul_comm]⟩
  obtain ⟨m, hm⟩ := hd
  have hsh : ∀ z : Int, patF (loF lp) (z - lp.length) = patF (loF lp) z := fun z => by
    have := pat_per (loF lp) (z - lp.length) m
    rw [← hm] at this
    rw [← this]
    congr 1
    omega
  have h1 : ∀ k, k ≤ lp.length → rolF (st ++ lp) (loF lp) (st ++ lp).length (st.length + k) = rolF (st ++ lp) (loF lp) (st ++ lp).length st.length := by
    intro k
    induction k with
    | zero => intro _; rfl
    | succ k ih =>
      intro hk
      rw [← Nat.add_assoc, rolF, if_pos, ih (by omega)]
      have e1 : (st ++ lp).getD (st.length + k) 0 = lp.getD k 0 := by simp [List.getD, List.getElem?_append_right (Nat.le_add_right _ _)]
      have e2 := loop_pat h0 k
      rw [Nat.mod_eq_of_lt (by omega)] at e2
      rw [e1, e2, List.length_append, ← hsh]
      congr 1
      omega
  have h2 : ∀ k, k ≤ st.length → rolF (st ++ lp) (loF lp) (st ++ lp).length k = rolF st (loF lp) st.length k := by
    intro k
    induction k with
    | zero => intro _; rfl
    | succ k ih =>
      intro hk
      unfold rolF
      rw [ih (by omega)]
      have e1 : (st ++ lp).getD k 0 = st.getD k 0 := by simp [List.getD, List.getElem?_append_left (show k < st.length by omega)]
      have e2 : patF (loF lp) ((k : Int) - (st ++ lp).length) = patF (loF lp) ((k : Int) - st.length) := by
        rw [List.length_append, ← hsh ((k : Int) - st.length)]
        congr 1
        omega
      rw [e1, e2]
  have hs : nrS (st ++ lp) lp = nrS st lp := by
    have a := h1 lp.length (Nat.le_refl _)
    have b := h2 st.length (Nat.le_refl _)
    unfold nrS
    have e : (st ++ lp).length = st.length + lp.length := List.length_append
    conv => lhs; rw [show rolF (st ++ lp) (loF lp) (st ++ lp).length (st ++ lp).length = rolF (st ++ lp) (loF lp) (st ++ lp).length (st.length + lp.length) by rw [e]]
    rw [a, b]
  have hr := nr_le st lp
  unfold nrmF
  rw [if_neg (by omega), if_neg (by omega), hs]
  congr 1
  · rw [List.take_append_of_le_length hr]
  · refine ext_getD (by rw [from_len, from_len]) (fun i a1 => ?_)
    have b1 : i < (loF lp).length := by rw [from_len] at a1; exact a1
    rw [from_get b1, from_get b1, List.length_append, ← hsh ((nrS st lp : Int) - st.length + i)]
    congr 1
    omega
/-- A word from a place on. -/
def shfF (st lp : List Int) (n : Int) : List Int × List Int := if lp.length = 0 ∨ n < 0 then (st, lp) else if n ≤ st.length then (st.drop n.toNat, lp) else ([], fromF lp (n - st.length))
theorem shf_at {st lp : List Int} (h0 : 0 < lp.length) (n k : Nat) : atF (shfF st lp n).1 (shfF st lp n).2 (k : Int) = atF st lp ((k + n : Nat) : Int) := by
  unfold shfF
  rw [if_neg (by omega)]
  by_cases h : (n : Int) ≤ st.length
  · rw [if_pos h]
    dsimp only
    rw [Int.toNat_natCast]
    have hl : (st.drop n).length = st.length - n := by rw [List.length_drop]
    by_cases h1 : k < st.length - n
    · rw [at_in (by omega), at_in (by omega)]
      simp [List.getD, Nat.add_comm]
    · rw [at_loop (by omega) h0, at_loop (by omega) h0, hl]
      congr 2
      omega
  · rw [if_neg h]
    dsimp only
    have hl : (fromF lp ((n : Int) - st.length)).length = lp.length := from_len _ _
    rw [at_loop (Nat.zero_le _) (by omega), at_loop (by omega) h0, ← pat_nat, ← pat_nat, from_pat _ _ h0]
    congr 1
    simp only [List.length_nil]
    omega
theorem shf_pos {st lp : List Int} (h0 : 0 < lp.length) (n : Int) : 0 < (shfF st lp n).2.length := by
  unfold shfF
  split
  · exact h0
  · split
    · exact h0
    · dsimp only; rw [from_len]; exact h0
/-- Are two words the same? -/
def sameF (st lp st2 lp2 : List Int) : Bool := decide (0 < lp.length) && decide (0 < lp2.length) && decide (nrmF st lp = nrmF st2 lp2)
end Go.Proofs.Ytophajljjnjcdaa.wd
