/- The sign that a text begins with, by its first two bytes. -/
import Derived.Test.YtcielemahmpppaaDoorLexSign
namespace Go.Proofs.YtcielemahmpppaaDoor.lx
open Go.ChangeShapes Go.WideShapes Go.ChangeAt Go.RowKit Go.Deep

theorem pref_list {s p : ByteArray} (h : prefB s p = true) : p.size ≤ s.size ∧ s.data.toList.take p.size = p.data.toList := by
  unfold prefB at h
  rw [Bool.and_eq_true, decide_eq_true_iff, beq_iff_eq, ByteArray.toList_eq, ByteArray.toList_eq] at h
  refine ⟨h.1, ?_⟩
  rw [← h.2]
  simp [ByteArray.data_extract]
theorem pref_of {s p : ByteArray} (h1 : p.size ≤ s.size) (h2 : s.data.toList.take p.size = p.data.toList) : prefB s p = true := by
  unfold prefB
  rw [Bool.and_eq_true, decide_eq_true_iff, beq_iff_eq, ByteArray.toList_eq, ByteArray.toList_eq]
  refine ⟨h1, ?_⟩
  rw [← h2]
  simp [ByteArray.data_extract]
theorem bt_list {s : ByteArray} {i : Nat} (h : i < s.size) : s.data.toList[i]? = some (s[i]'h) := by
  rw [Array.getElem?_toList, Array.getElem?_eq_getElem h]
  rfl
theorem pref1 {s : ByteArray} {c : UInt8} : prefB s ⟨[c].toArray⟩ = true ↔ 0 < s.size ∧ bt s 0 = c.toNat := by
  constructor
  · intro h
    obtain ⟨h1, h2⟩ := pref_list h
    have h0 : 0 < s.size := h1
    refine ⟨h0, ?_⟩
    have := congrArg (fun l => l[0]?) h2
    simp only [List.getElem?_take] at this
    rw [if_pos (by show 0 < 1; omega), bt_list h0] at this
    rw [bt_eq h0]
    have e : s[0] = c := by simpa using this
    rw [e]
  · rintro ⟨h0, h1⟩
    refine pref_of h0 ?_
    rw [bt_eq h0] at h1
    have e : s[0] = c := UInt8.toNat_inj.1 h1
    refine List.ext_getElem? fun i => ?_
    rcases i with _ | i
    · simp only [List.getElem?_take]
      rw [if_pos (by show 0 < 1; omega), bt_list h0, e]
      rfl
    · simp only [List.getElem?_take]
      rw [if_neg (by show ¬ i + 1 < 1; omega)]
      rfl
theorem pref2 {s : ByteArray} {c d : UInt8} : prefB s ⟨[c, d].toArray⟩ = true ↔ 1 < s.size ∧ bt s 0 = c.toNat ∧ bt s 1 = d.toNat := by
  constructor
  · intro h
    obtain ⟨h1, h2⟩ := pref_list h
    have h0 : 1 < s.size := h1
    have a := congrArg (fun l => l[0]?) h2
    have b := congrArg (fun l => l[1]?) h2
    simp only [List.getElem?_take] at a b
    rw [if_pos (by show 0 < 2; omega), bt_list (by omega)] at a
    rw [if_pos (by show 1 < 2; omega), bt_list h0] at b
    rw [bt_eq h0, bt_eq (pos := 0) (by omega)]
    have e : s[0] = c := by simpa using a
    have f : s[1] = d := by simpa using b
    rw [e, f]
    exact ⟨h0, rfl, rfl⟩
  · rintro ⟨h0, h1, h2⟩
    refine pref_of h0 ?_
    rw [bt_eq (pos := 0) (by omega)] at h1
    rw [bt_eq h0] at h2
    have e : s[0] = c := UInt8.toNat_inj.1 h1
    have f : s[1] = d := UInt8.toNat_inj.1 h2
    refine List.ext_getElem? fun i => ?_
    simp only [List.getElem?_take]
    rcases i with _ | _ | i
    · rw [if_pos (by show 0 < 2; omega), bt_list (by omega), e]
      rfl
    · rw [if_pos (by show 0 + 1 < 2; omega), bt_list h0, f]
      rfl
    · rw [if_neg (by show ¬ i + 2 < 2; omega)]
      rfl
theorem sg_two {s : ByteArray} {k : Nat} (hk : k < 25) (hp : prefB s (sgS k) = true) (h2 : (sgS k).size = 2) : 1 < s.size ∧ twoB (bt s 0) (bt s 1) = true := by
  have h : k = 0 ∨ k = 1 ∨ k = 2 ∨ k = 3 ∨ k = 4 ∨ k = 5 ∨ k = 6 ∨ k = 7 ∨ k = 8 ∨ k = 9 ∨ k = 10 ∨ k = 11 ∨ k = 12 ∨ k = 13 ∨ k = 14 ∨ k = 15 ∨ k = 16 ∨ k = 17 ∨ k = 18 ∨ k = 19 ∨ k = 20 ∨ k = 21 ∨ k = 22 ∨ k = 23 ∨ k = 24 := by omega
  rcases h with rfl | rfl | rfl | rfl | rfl | rfl | rfl | rfl | rfl | rfl | rfl | rfl | rfl | rfl | rfl | rfl | rfl | rfl | rfl | rfl | rfl | rfl | rfl | rfl | rfl
  all_goals first
    | exact absurd h2 (by decide)
    | (obtain ⟨h1, e1, e2⟩ := pref2.1 hp; exact ⟨h1, by rw [e1, e2]; decide⟩)
theorem sg_one {s : ByteArray} {k : Nat} (hk : k < 25) (hp : prefB s (sgS k) = true) (h2 : (sgS k).size = 1) : 0 < s.size ∧ oneB (bt s 0) = true := by
  have h : k = 0 ∨ k = 1 ∨ k = 2 ∨ k = 3 ∨ k = 4 ∨ k = 5 ∨ k = 6 ∨ k = 7 ∨ k = 8 ∨ k = 9 ∨ k = 10 ∨ k = 11 ∨ k = 12 ∨ k = 13 ∨ k = 14 ∨ k = 15 ∨ k = 16 ∨ k = 17 ∨ k = 18 ∨ k = 19 ∨ k = 20 ∨ k = 21 ∨ k = 22 ∨ k = 23 ∨ k = 24 := by omega
  rcases h with rfl | rfl | rfl | rfl | rfl | rfl | rfl | rfl | rfl | rfl | rfl | rfl | rfl | rfl | rfl | rfl | rfl | rfl | rfl | rfl | rfl | rfl | rfl | rfl | rfl
  all_goals first
    | exact absurd h2 (by decide)
    | (obtain ⟨h1, e1⟩ := pref1.1 hp; exact ⟨h1, by rw [e1]; decide⟩)
theorem sgS_ge {k : Nat} (h : k < 25) : (sgS k).size = 1 ∨ (sgS k).size = 2 := by
  have : ∀ k : Fin 25, (sgS k.1).size = 1 ∨ (sgS k.1).size = 2 := by decide
  exact this ⟨k, h⟩
theorem two_sg {s : ByteArray} (h1 : 1 < s.size) (h : twoB (bt s 0) (bt s 1) = true) : ∃ k, k < 25 ∧ prefB s (sgS k) = true ∧ (sgS k).size = 2 := by
  unfold twoB at h
  simp only [Bool.or_eq_true, Bool.and_eq_true, beq_iff_eq] at h
  have go : ∀ (c d : UInt8), bt s 0 = c.toNat ∧ bt s 1 = d.toNat → prefB s ⟨[c, d].toArray⟩ = true := fun c d e => pref2.2 ⟨h1, e.1, e.2⟩
  rcases h with ((((((h | h) | h) | h) | h) | h) | h) | h
  · exact ⟨10, by decide, go 58 61 h, by decide⟩
  · exact ⟨11, by decide, go 61 61 h, by decide⟩
  · exact ⟨12, by decide, go 33 61 h, by decide⟩
  · exact ⟨14, by decide, go 60 61 h, by decide⟩
  · exact ⟨15, by decide, go 45 62 h, by decide⟩
  · exact ⟨21, by decide, go 38 38 h, by decide⟩
  · exact ⟨22, by decide, go 124 124 h, by decide⟩
  · exact ⟨23, by decide, go 61 62 h, by decide⟩
theorem one_sg {s : ByteArray} (h1 : 0 < s.size) (h : oneB (bt s 0) = true) : ∃ k, k < 25 ∧ prefB s (sgS k) = true := by
  unfold oneB at h
  simp only [Bool.or_eq_true, beq_iff_eq] at h
  have go : ∀ (c : UInt8), bt s 0 = c.toNat → prefB s ⟨[c].toArray⟩ = true := fun c e => pref1.2 ⟨h1, e⟩
  rcases h with (((((((((((((((h | h) | h) | h) | h) | h) | h) | h) | h) | h) | h) | h) | h) | h) | h) | h) | h
  · exact ⟨0, by decide, go 40 h⟩
  · exact ⟨1, by decide, go 41 h⟩
  · exact ⟨2, by decide, go 91 h⟩
  · exact ⟨3, by decide, go 93 h⟩
  · exact ⟨4, by decide, go 123 h⟩
  · exact ⟨5, by decide, go 125 h⟩
  · exact ⟨6, by decide, go 59 h⟩
  · exact ⟨7, by decide, go 44 h⟩
  · exact ⟨8, by decide, go 58 h⟩
  · exact ⟨9, by decide, go 46 h⟩
  · exact ⟨13, by decide, go 60 h⟩
  · exact ⟨16, by decide, go 43 h⟩
  · exact ⟨17, by decide, go 45 h⟩
  · exact ⟨18, by decide, go 42 h⟩
  · exact ⟨19, by decide, go 33 h⟩
  · exact ⟨20, by decide, go 63 h⟩
  · exact ⟨24, by decide, go 64 h⟩
theorem gM_has {g : Nat → ByteArray} {s : ByteArray} : ∀ {n k : Nat}, k < n → prefB s (g k) = true → (g k).size ≤ gM g s n
  | 0, _, h, _ => absurd h (Nat.not_lt_zero _)
  | n + 1, k, h, hp => by
    unfold gM
    by_cases e : k = n
    · subst e
      rw [if_pos hp]; omega
    · have := gM_has (g := g) (s := s) (n := n) (k := k) (by omega) hp
      split <;> omega
theorem gM_from {g : Nat → ByteArray} {s : ByteArray} : ∀ n, gM g s n = 0 ∨ ∃ k, k < n ∧ prefB s (g k) = true ∧ (g k).size = gM g s n
  | 0 => .inl rfl
  | n + 1 => by
    unfold gM
    by_cases hp : prefB s (g n) = true
    · rw [if_pos hp]
      rcases Nat.le_total (gM g s n) (g n).size with h | h
      · exact .inr ⟨n, by omega, hp, by omega⟩
      · rcases gM_from (g := g) (s := s) n with h0 | ⟨k, h1, h2, h3⟩
        · exact .inl (by omega)
        · exact .inr ⟨k, by omega, h2, by omega⟩
    · rw [if_neg hp]
      rcases gM_from (g := g) (s := s) n with h0 | ⟨k, h1, h2, h3⟩
      · exact .inl h0
      · exact .inr ⟨k, by omega, h2, h3⟩
/-- The longest sign, by the first two bytes. -/
theorem sign_eq (s : ByteArray) : gM sgS s 25 = signN s := by
  unfold signN
  have hle := gM_le (g := sgS) (fun k hk => sgS_le hk) s 25 (Nat.le_refl _)
  by_cases h2 : 1 < s.size ∧ twoB (bt s 0) (bt s 1) = true
  · rw [if_pos h2]
    obtain ⟨k, hk, hp, hz⟩ := two_sg h2.1 h2.2
    have := gM_has (g := sgS) hk hp
    omega
  · rw [if_neg h2]
    by_cases h1 : 0 < s.size ∧ oneB (bt s 0) = true
    · rw [if_pos h1]
      obtain ⟨k, hk, hp⟩ := one_sg h1.1 h1.2
      have hge := gM_has (g := sgS) hk hp
      have hz := sgS_ge hk
      rcases gM_from (g := sgS) (s := s) 25 with h0 | ⟨j, g1, g2, g3⟩
      · omega
      · rcases sgS_ge g1 with e | e
        · omega
        · exact absurd (sg_two g1 g2 e) h2
    · rw [if_neg h1]
      rcases gM_from (g := sgS) (s := s) 25 with h0 | ⟨j, g1, g2, g3⟩
      · exact h0
      · rcases sgS_ge g1 with e | e
        · exact absurd (sg_one g1 g2 e) h1
        · exact absurd (sg_two g1 g2 e) h2
/-- The program's sign. -/
theorem sign_any (s : ByteArray) (w : World) (hs : SgW w) : Calls Tryd.prog 41 #[.string s] w fun e w' => e = .returned (.int .i64 (signN s)) ∧ w' = w := by
  have := sign_any' sgS (fun k hk => sgS_le hk) s w hs
  rw [sign_eq] at this
  exact this
end Go.Proofs.YtcielemahmpppaaDoor.lx
