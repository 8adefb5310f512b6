/- The document's begins, at any place. -/
import Derived.Test.YtcielemahmpppaaDoorLexSkip
import Derived.Test.YtcielemahmpppaaDoorLexSgn
namespace Go.Proofs.YtcielemahmpppaaDoor.lx
open Go.ChangeShapes Go.WideShapes Go.ChangeAt Go.RowKit Go.Deep

theorem wordE_of {s : ByteArray} {a k : Nat} (h : a < s.size) (hl : letB (bt s a) = true) (h1 : a ≤ k) (h2 : k ≤ s.size) (h3 : ∀ i, a ≤ i → i < k → wB (bt s i) = true) (h4 : k < s.size → wB (bt s k) = false) : wordN (tailS s a) = k - a := by
  have e := wordN_eq s a h
  rw [if_pos hl] at e
  have := first_one (q := fun i => wB (bt s i) = true) (n := s.size) (pos := a) (runE_spec wB s s.size a (by omega) (by omega)) ⟨h1, h2, h3, fun h => by rw [h4 h]; decide⟩
  omega
theorem digE_of {s : ByteArray} {a k : Nat} (h : a < s.size) (h1 : a ≤ k) (h2 : k ≤ s.size) (h3 : ∀ i, a ≤ i → i < k → digB (bt s i) = true) (h4 : k < s.size → digB (bt s k) = false) : digN (tailS s a) = k - a := by
  have e := digN_eq s a h
  have := first_one (q := fun i => digB (bt s i) = true) (n := s.size) (pos := a) (runE_spec (fun b => digB b) s s.size a (by omega) (by omega)) ⟨h1, h2, h3, fun h => by rw [h4 h]; decide⟩
  omega
theorem wordE_none {s : ByteArray} {a : Nat} (h : a < s.size) (hl : letB (bt s a) = false) : wordN (tailS s a) = 0 := by
  have e := wordN_eq s a h
  rw [if_neg (by rw [hl]; decide)] at e
  omega
theorem digE_none {s : ByteArray} {a : Nat} (h : a < s.size) (hl : digB (bt s a) = false) : digN (tailS s a) = 0 := by
  have := digE_of h (Nat.le_refl a) (by omega) (fun i h1 h2 => by omega) (fun _ => hl)
  omega
/-- The document's order of the signs. -/
def pmL : List Nat := [10, 11, 12, 14, 15, 21, 22, 23, 0, 1, 2, 3, 4, 5, 6, 7, 8, 9, 13, 16, 17, 18, 19, 20, 24]
def pm (k : Nat) : Nat := pmL.getD k 0
def rS (k : Nat) : ByteArray := sgS (pm k)
theorem pm_lt {k : Nat} (h : k < 25) : pm k < 25 := by
  have : ∀ k : Fin 25, pm k.1 < 25 := by decide
  exact this ⟨k, h⟩
theorem rS_two {k : Nat} (h : k < 8) : (rS k).size = 2 := by
  have : ∀ k : Fin 8, (rS k.1).size = 2 := by decide
  exact this ⟨k, h⟩
theorem rS_one {k : Nat} (h : k < 25) (h8 : 8 ≤ k) : (rS k).size = 1 := by
  have : ∀ k : Fin 25, 8 ≤ k.1 → (rS k.1).size = 1 := by decide
  exact this ⟨k, h⟩ h8
theorem rS_le {k : Nat} (h : k < 25) : 1 ≤ (rS k).size ∧ (rS k).size ≤ 2 := by
  rcases Nat.lt_or_ge k 8 with h8 | h8
  · rw [rS_two h8]; omega
  · rw [rS_one h h8]; omega
theorem pm_two {k : Nat} (h : k < 25) (h2 : (sgS k).size = 2) : ∃ j, j < 8 ∧ pm j = k := by
  have : ∀ k : Fin 25, (sgS k.1).size = 2 → ∃ j : Fin 8, pm j.1 = k.1 := by decide
  obtain ⟨j, hj⟩ := this ⟨k, h⟩ h2
  exact ⟨j.1, j.2, hj⟩
theorem pm_all {k : Nat} (h : k < 25) : ∃ j, j < 25 ∧ pm j = k := by
  have : ∀ k : Fin 25, ∃ j : Fin 25, pm j.1 = k.1 := by decide
  obtain ⟨j, hj⟩ := this ⟨k, h⟩
  exact ⟨j.1, j.2, hj⟩
theorem sign_first {x : ByteArray} {k : Nat} (hk : k < 25) (h : ∀ j, j < k → prefB x (rS j) = false) (hp : prefB x (rS k) = true) : signN x = (rS k).size := by
  unfold signN
  rcases Nat.lt_or_ge k 8 with h8 | h8
  · have hz := rS_two h8
    rw [if_pos (sg_two (pm_lt hk) hp hz), hz]
  · have hz := rS_one hk h8
    rw [if_neg (fun c => by
      obtain ⟨j, hj, hp2, hz2⟩ := two_sg c.1 c.2
      obtain ⟨i, hi, rfl⟩ := pm_two hj hz2
      have := h i (by omega)
      rw [show prefB x (rS i) = true from hp2] at this
      cases this), if_pos (sg_one (pm_lt hk) hp hz), hz]
theorem sign_none {x : ByteArray} (h : ∀ j, j < 25 → prefB x (rS j) = false) : signN x = 0 := by
  unfold signN
  rw [if_neg (fun c => by
    obtain ⟨j, hj, hp2, hz2⟩ := two_sg c.1 c.2
    obtain ⟨i, hi, rfl⟩ := pm_two hj hz2
    have := h i (by omega)
    rw [show prefB x (rS i) = true from hp2] at this
    cases this), if_neg (fun c => by
    obtain ⟨j, hj, hp2⟩ := one_sg c.1 c.2
    obtain ⟨i, hi, rfl⟩ := pm_all hj
    have := h i hi
    rw [show prefB x (rS i) = true from hp2] at this
    cases this)]
/-- What begins tells. -/
def docF (s : ByteArray) (a : Nat) : Nat × Nat :=
  if letB (bt s a) = true then (wordN (tailS s a), 1) else if digB (bt s a) = true then (digN (tailS s a), 2) else if signN (tailS s a) = 0 then (0, 0) else (signN (tailS s a), 3)
def BegP (s : ByteArray) (a : Nat) (w : World) (e : Ending) (w' : World) : Prop := e = .returned (.tuple #[.int .i64 ((docF s a).1 : Nat), .int .i64 ((docF s a).2 : Nat)]) ∧ Below w.heap.size w w'
theorem signs_all (w : World) : Calls Tryd.prog 44 #[] w fun e w' => (∃ b, e = .returned (.slice (some ⟨b, 0, none⟩) 25 25) ∧ b < w'.heap.size ∧ ∀ i, i < 25 → w'.cell? ⟨b, i, none⟩ = some (.string (rS i))) ∧ Below w.heap.size w w' := by
  go_enter Tryd.func44, Tryd.ntmps44
  go_wp2
  go_ret
  refine ⟨⟨_, rfl, by simp, fun i hi => ?_⟩, (Below.refl _ _).alloc (Nat.le_refl _) _⟩
  rcases i with _|_|_|_|_|_|_|_|_|_|_|_|_|_|_|_|_|_|_|_|_|_|_|_|_|i
  all_goals first
    | exact World.cell?_alloc_at _ _ _ _ rfl
    | omega
theorem sub_w {k a n : Nat} (h : a ≤ k) (hk : k ≤ n) (hn : n ≤ 20000) : IntKind.i64.wrap ((k : Int) - (a : Int)) = ((k - a : Nat) : Int) := (IntWalk.i64_in _ (by omega)).trans (by omega)
set_option maxRecDepth 100000 in
set_option maxHeartbeats 4000000 in
theorem beginsL (s : ByteArray) (a : Nat) (w : World) (ha : a < s.size) (hz : s.size ≤ 20000) (hl : letB (bt s a) = true) :
    Calls Tryd.prog 23 #[.string s, .int .i64 a] w (BegP s a w) := by
  have HR : Hid (∀ k, a ≤ k → k ≤ s.size → (∀ i, a ≤ i → i < k → wB (bt s i) = true) → (k < s.size → wB (bt s k) = false) → docF s a = (k - a, 1)) := Lib.hid (fun k h1 h2 h3 h4 => by unfold docF; rw [if_pos hl, wordE_of ha hl h1 h2 h3 h4])
  have hix := byte_at s a ha
  have HL := Lib.hid hl
  clear hl
  go_enter Tryd.func23, Tryd.ntmps23
  go_wp2_with fail
  refine (letter_any _ _).mono ?_
  rw [HL.out]
  rintro e w' ⟨rfl, rfl⟩
  clear hix
  go_wp2
  go_loop [6] (fun i => ∃ k : Nat, a ≤ k ∧ k ≤ s.size ∧ i = .int .i64 k ∧ Hid (∀ j, a ≤ j → j < k → wB (bt s j) = true)) (fun i => s.size - (intOf i).toNat)
  case atStart => exact ⟨a, Nat.le_refl _, by omega, rfl, Lib.hid (fun j h1 h2 => by omega)⟩
  case round =>
    obtain ⟨k, hak, hk, rfl, HV⟩ := hrel
    by_cases hlt : k < s.size
    · have hlt2 : (k : Int) < (s.size : Int) := by omega
      have hix := byte_at s k hlt
      obtain ⟨b, HBT⟩ : ∃ b, Hid (bt s k = b) := ⟨_, Lib.hid rfl⟩
      rw [HBT.out] at hix
      have HGO : Hid (wB b = true → ∀ j, a ≤ j → j < k + 1 → wB (bt s j) = true) := Lib.hid (fun h j h1 h2 => by
        by_cases hjk : j = k
        · rw [hjk, HBT.out]; exact h
        · exact HV.out j h1 (by omega))
      cases h1 : letB b with
      | true =>
        have HW := Lib.hid (HGO.out (wB_let h1))
        have H1 := Lib.hid h1
        clear h1
        go_wp2_with fail
        refine (letter_any _ _).mono ?_
        rw [H1.out]
        rintro e w' ⟨rfl, rfl⟩
        go_wp2
        go_round
        case rel => exact ⟨k + 1, by omega, by omega, by go_num, HW⟩
        case measure => simp [intOf]; omega
      | false =>
        cases h2 : digB b with
        | true =>
          have HW := Lib.hid (HGO.out (by unfold wB; rw [h1, h2]; rfl))
          have H1 := Lib.hid h1
          have H2 := Lib.hid h2
          clear h1 h2
          go_wp2_with fail
          refine (letter_any _ _).mono ?_
          rw [H1.out]
          rintro e w' ⟨rfl, rfl⟩
          go_wp2_with fail
          refine (digit_any _ _).mono ?_
          rw [H2.out]
          rintro e w' ⟨rfl, rfl⟩
          go_wp2
          go_round
          case rel => exact ⟨k + 1, by omega, by omega, by go_num, HW⟩
          case measure => simp [intOf]; omega
        | false =>
          have H1 := Lib.hid h1
          have H2 := Lib.hid h2
          by_cases h3 : b = 95
          · subst h3
            have HW := Lib.hid (HGO.out (by decide))
            clear h1 h2
            go_wp2_with fail
            refine (letter_any _ _).mono ?_
            rw [show letB 95 = false by decide]
            rintro e w' ⟨rfl, rfl⟩
            go_wp2_with fail
            refine (digit_any _ _).mono ?_
            rw [show digB 95 = false by decide]
            rintro e w' ⟨rfl, rfl⟩
            go_wp2
            go_round
            case rel => exact ⟨k + 1, by omega, by omega, by go_num, HW⟩
            case measure => simp [intOf]; omega
          · have HE := Lib.hid (HR.out k hak hk HV.out (fun _ => by rw [HBT.out]; unfold wB; rw [h1, h2, decide_eq_false h3]; rfl))
            have g3 : ((b : Int) == 95) = false := by simp; omega
            have q1 := sub_w hak hk hz
            obtain ⟨d, HD⟩ : ∃ d, Hid (k - a = d) := ⟨_, Lib.hid rfl⟩
            rw [HD.out] at q1 HE
            clear h1 h2
            go_wp2_with fail
            refine (letter_any _ _).mono ?_
            rw [H1.out]
            rintro e w' ⟨rfl, rfl⟩
            go_wp2_with fail
            refine (digit_any _ _).mono ?_
            rw [H2.out]
            rintro e w' ⟨rfl, rfl⟩
            go_wp2
            go_ret2
            exact ⟨by rw [HE.out]; try rfl, Below.refl _ _⟩
    · obtain rfl : k = s.size := by omega
      have HE := Lib.hid (HR.out s.size hak hk HV.out (fun h => by omega))
      have q1 := sub_w hak hk hz
      obtain ⟨d, HD⟩ : ∃ d, Hid (s.size - a = d) := ⟨_, Lib.hid rfl⟩
      rw [HD.out] at q1 HE
      go_wp2
      go_ret2
      exact ⟨by rw [HE.out]; try rfl, Below.refl _ _⟩
set_option maxRecDepth 100000 in
set_option maxHeartbeats 4000000 in
theorem beginsD (s : ByteArray) (a : Nat) (w : World) (ha : a < s.size) (hz : s.size ≤ 20000) (hl : letB (bt s a) = false) (hd : digB (bt s a) = true) :
    Calls Tryd.prog 23 #[.string s, .int .i64 a] w (BegP s a w) := by
  have HR : Hid (∀ k, a ≤ k → k ≤ s.size → (∀ i, a ≤ i → i < k → digB (bt s i) = true) → (k < s.size → digB (bt s k) = false) → docF s a = (k - a, 2)) := Lib.hid (fun k h1 h2 h3 h4 => by unfold docF; rw [if_neg (by rw [hl]; decide), if_pos hd, digE_of ha h1 h2 h3 h4])
  have hix := byte_at s a ha
  have HL := Lib.hid hl
  have HDG := Lib.hid hd
  clear hl hd
  go_enter Tryd.func23, Tryd.ntmps23
  go_wp2_with fail
  refine (letter_any _ _).mono ?_
  rw [HL.out]
  rintro e w' ⟨rfl, rfl⟩
  go_wp2_with fail
  refine (digit_any _ _).mono ?_
  rw [HDG.out]
  rintro e w' ⟨rfl, rfl⟩
  clear hix
  go_wp2
  go_loop [6] (fun i => ∃ k : Nat, a ≤ k ∧ k ≤ s.size ∧ i = .int .i64 k ∧ Hid (∀ j, a ≤ j → j < k → digB (bt s j) = true)) (fun i => s.size - (intOf i).toNat)
  case atStart => exact ⟨a, Nat.le_refl _, by omega, rfl, Lib.hid (fun j h1 h2 => by omega)⟩
  case round =>
    obtain ⟨k, hak, hk, rfl, HV⟩ := hrel
    by_cases hlt : k < s.size
    · have hlt2 : (k : Int) < (s.size : Int) := by omega
      have hix := byte_at s k hlt
      obtain ⟨b, HBT⟩ : ∃ b, Hid (bt s k = b) := ⟨_, Lib.hid rfl⟩
      rw [HBT.out] at hix
      cases h2 : digB b with
      | true =>
        have HW : Hid (∀ j, a ≤ j → j < k + 1 → digB (bt s j) = true) := Lib.hid (fun j g1 g2 => by
          by_cases hjk : j = k
          · rw [hjk, HBT.out]; exact h2
          · exact HV.out j g1 (by omega))
        have H2 := Lib.hid h2
        clear h2
        go_wp2_with fail
        refine (digit_any _ _).mono ?_
        rw [H2.out]
        rintro e w' ⟨rfl, rfl⟩
        go_wp2
        go_round
        case rel => exact ⟨k + 1, by omega, by omega, by go_num, HW⟩
        case measure => simp [intOf]; omega
      | false =>
        have HE := Lib.hid (HR.out k hak hk HV.out (fun _ => by rw [HBT.out]; exact h2))
        have H2 := Lib.hid h2
        have q1 := sub_w hak hk hz
        obtain ⟨d, HD⟩ : ∃ d, Hid (k - a = d) := ⟨_, Lib.hid rfl⟩
        rw [HD.out] at q1 HE
        clear h2
        go_wp2_with fail
        refine (digit_any _ _).mono ?_
        rw [H2.out]
        rintro e w' ⟨rfl, rfl⟩
        go_wp2
        go_ret2
        exact ⟨by rw [HE.out]; try rfl, Below.refl _ _⟩
    · obtain rfl : k = s.size := by omega
      have HE := Lib.hid (HR.out s.size hak hk HV.out (fun h => by omega))
      have q1 := sub_w hak hk hz
      obtain ⟨d, HD⟩ : ∃ d, Hid (s.size - a = d) := ⟨_, Lib.hid rfl⟩
      rw [HD.out] at q1 HE
      go_wp2
      go_ret2
      exact ⟨by rw [HE.out]; try rfl, Below.refl _ _⟩
set_option maxRecDepth 100000 in
set_option maxHeartbeats 4000000 in
theorem beginsS (s : ByteArray) (a : Nat) (w : World) (ha : a < s.size) (hz : s.size ≤ 20000) (hl : letB (bt s a) = false) (hd : digB (bt s a) = false) :
    Calls Tryd.prog 23 #[.string s, .int .i64 a] w (BegP s a w) := by
  have HRY : Hid (∀ k, k < 25 → (∀ j, j < k → prefB (tailS s a) (rS j) = false) → prefB (tailS s a) (rS k) = true → docF s a = ((rS k).size, 3)) := Lib.hid (fun k hk h1 h2 => by
    have := rS_le hk
    unfold docF; rw [if_neg (by rw [hl]; decide), if_neg (by rw [hd]; decide), sign_first hk h1 h2, if_neg (by omega)])
  have HRN : Hid ((∀ j, j < 25 → prefB (tailS s a) (rS j) = false) → docF s a = (0, 0)) := Lib.hid (fun h1 => by
    unfold docF; rw [if_neg (by rw [hl]; decide), if_neg (by rw [hd]; decide), sign_none h1, if_pos rfl])
  have hix := byte_at s a ha
  have HL := Lib.hid hl
  have HDG := Lib.hid hd
  clear hl hd
  go_enter Tryd.func23, Tryd.ntmps23
  go_wp2_with fail
  refine (letter_any _ _).mono ?_
  rw [HL.out]
  rintro e w' ⟨rfl, rfl⟩
  go_wp2_with fail
  refine (digit_any _ _).mono ?_
  rw [HDG.out]
  rintro e w' ⟨rfl, rfl⟩
  clear hix
  go_wp2_with fail
  refine (signs_all w).mono ?_
  rintro e w1 ⟨⟨bs, rfl, hbs, hcs⟩, hb1⟩
  have HCS := Lib.hid hcs
  have HB1 := Lib.hid hb1
  clear hcs hb1
  go_wp2
  go_loopw [8] (fun i wr => ∃ (k j : Nat), k ≤ 25 ∧ i = .int .i64 k ∧ wr = w1.drewN j ∧ Hid (∀ i, i < k → prefB (tailS s a) (rS i) = false)) (fun i _ => 25 - (intOf i).toNat)
  case atStart => exact ⟨0, 0, Nat.zero_le _, rfl, rfl, Lib.hid (fun i h => by omega)⟩
  case round =>
    obtain ⟨k, j, hk, rfl, rfl, HP⟩ := hrel
    have HBJ : Hid (∀ n, Below w.heap.size w (w1.drewN n)) := Lib.hid (fun n => below_drewN HB1.out n)
    by_cases hlt : k < 25
    · have ct := HCS.out k hlt
      have ht := rS_le hlt
      have HY := Lib.hid (HRY.out k hlt HP.out)
      have HN : Hid (prefB (tailS s a) (rS k) = false → ∀ i, i < k + 1 → prefB (tailS s a) (rS i) = false) := Lib.hid (fun h i hi => by
        by_cases hik : i = k
        · rw [hik]; exact h
        · exact HP.out i (by omega))
      have HPB : Hid (a + (rS k).size ≤ s.size → prefB (tailS s a) (rS k) = ((s.extract a (a + (rS k).size)).toList == (rS k).toList)) := Lib.hid (fun h => by
        unfold prefB
        rw [decide_eq_true (by rw [tail_size]; omega), Bool.true_and, extract_tail_in h])
      have HPN : Hid (¬ a + (rS k).size ≤ s.size → prefB (tailS s a) (rS k) = false) := Lib.hid (fun h => by
        unfold prefB
        rw [decide_eq_false (by rw [tail_size]; omega), Bool.false_and])
      generalize rS k = t at ct ht HY HN HPB HPN
      obtain ⟨R, HR⟩ : ∃ R, Hid (s.size - a = R) := ⟨_, Lib.hid rfl⟩
      have q2 : IntKind.i64.wrap ((s.size : Int) - (a : Int)) = (R : Int) := by rw [← HR.out]; exact sub_w (by omega) (Nat.le_refl _) hz
      by_cases hsz : t.size ≤ R
      · obtain ⟨E, HE⟩ : ∃ E, Hid (a + t.size = E) := ⟨_, Lib.hid rfl⟩
        have hEz : E ≤ s.size := by have := HE.out; have := HR.out; omega
        have haE : a ≤ E := by have := HE.out; omega
        have hsl : ∀ W, (Instr.slice 9 (.string s) (some (.int .i64 (a : Int))) (some (.int .i64 (E : Int))) none).run Tryd.prog W = .ok (.string (s.extract a E)) W := fun W => by
          rw [run_slice_string W 9 s .i64 .i64 a E Tryd.underlying9 (by omega) (by omega) (by omega)]
          rfl
        have q1 : IntKind.i64.wrap ((a : Int) + (t.size : Int)) = (E : Int) := by rw [← HE.out]; exact (IntWalk.i64_in _ (by omega)).trans (by omega)
        obtain ⟨bb, hbb⟩ : ∃ bb, ((s.extract a E).toList == t.toList) = bb := ⟨_, rfl⟩
        have HPR : Hid (prefB (tailS s a) t = bb) := Lib.hid (by rw [HPB.out (by rw [HE.out]; exact hEz), HE.out]; exact hbb)
        have hsz2 : (t.size : Int) ≤ (R : Int) := by omega
        cases bb with
        | true =>
          have HF := Lib.hid (HY.out HPR.out)
          go_wp2
          go_quiet (fail)
          go_wp2
          go_ret2
          exact ⟨by rw [HF.out]; try rfl, HBJ.out _⟩
        | false =>
          have HF := Lib.hid (HN.out HPR.out)
          go_wp2
          go_quiet (fail)
          go_wp2
          go_roundw
          case rel => exact ⟨k + 1, _, by omega, by go_num, rfl, HF⟩
          case measure => simp [intOf]; omega
      · have hsz2 : decide ((t.size : Int) ≤ (R : Int)) = false := decide_eq_false (by omega)
        have HF := Lib.hid (HN.out (HPN.out (by have := HR.out; omega)))
        go_wp2
        go_quiet (fail)
        go_wp2
        go_roundw
        case rel => exact ⟨k + 1, _, by omega, by go_num, rfl, HF⟩
        case measure => simp [intOf]; omega
    · obtain rfl : k = 25 := by omega
      have HF := Lib.hid (HRN.out HP.out)
      have HBX := HBJ.out j
      go_wp2
      go_ret2
      exact ⟨by rw [HF.out]; rfl, HBX⟩
theorem begins_all (s : ByteArray) (a : Nat) (w : World) (ha : a < s.size) (hz : s.size ≤ 20000) : Calls Tryd.prog 23 #[.string s, .int .i64 a] w (BegP s a w) := by
  cases hl : letB (bt s a) with
  | true => exact beginsL s a w ha hz hl
  | false => cases hd : digB (bt s a) with
    | true => exact beginsD s a w ha hz hl hd
    | false => exact beginsS s a w ha hz hl hd
end Go.Proofs.YtcielemahmpppaaDoor.lx
