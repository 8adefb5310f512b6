/- The document's Name. -/
import Derived.Test.YtcielemahmpppaaDoorLexAll
import Derived.IntWalk
import Derived.Deep.Cut
namespace Go.Proofs.YtcielemahmpppaaDoor.lx
open Go.ChangeShapes Go.WideShapes Go.ChangeAt Go.RowKit Go.Deep

theorem letter_any (r : Int) (w : World) : Calls Tryd.prog 42 #[.int .u8 r] w fun e w' => e = .returned (.bool (letB r)) ∧ w = w' := by
  by_cases h1 : 97 ≤ r
  · by_cases h2 : r ≤ 122
    · have HE : Hid (letB r = true) := Lib.hid (decide_eq_true (by omega))
      go_enter Tryd.func42, Tryd.ntmps42
      go_wp2
      go_ret
      exact ⟨by rw [HE.out]; rfl, rfl⟩
    · have HE : Hid (letB r = false) := Lib.hid (decide_eq_false (by omega))
      have h3 : 65 ≤ r := by omega
      have h4 : ¬ r ≤ 90 := by omega
      go_enter Tryd.func42, Tryd.ntmps42
      go_wp2
      go_ret
      exact ⟨by rw [HE.out]; rfl, rfl⟩
  · by_cases h2 : 65 ≤ r
    · by_cases h3 : r ≤ 90
      · have HE : Hid (letB r = true) := Lib.hid (decide_eq_true (by omega))
        go_enter Tryd.func42, Tryd.ntmps42
        go_wp2
        go_ret
        exact ⟨by rw [HE.out]; rfl, rfl⟩
      · have HE : Hid (letB r = false) := Lib.hid (decide_eq_false (by omega))
        go_enter Tryd.func42, Tryd.ntmps42
        go_wp2
        go_ret
        exact ⟨by rw [HE.out]; rfl, rfl⟩
    · have HE : Hid (letB r = false) := Lib.hid (decide_eq_false (by omega))
      go_enter Tryd.func42, Tryd.ntmps42
      go_wp2
      go_ret
      exact ⟨by rw [HE.out]; rfl, rfl⟩
theorem digit_any (r : Int) (w : World) : Calls Tryd.prog 43 #[.int .u8 r] w fun e w' => e = .returned (.bool (digB r)) ∧ w = w' := by
  by_cases h1 : 48 ≤ r
  · by_cases h2 : r ≤ 57
    · have HE : Hid (digB r = true) := Lib.hid (decide_eq_true (by omega))
      go_enter Tryd.func43, Tryd.ntmps43
      go_wp2
      go_ret
      exact ⟨by rw [HE.out]; rfl, rfl⟩
    · have HE : Hid (digB r = false) := Lib.hid (decide_eq_false (by omega))
      go_enter Tryd.func43, Tryd.ntmps43
      go_wp2
      go_ret
      exact ⟨by rw [HE.out]; rfl, rfl⟩
  · have HE : Hid (digB r = false) := Lib.hid (decide_eq_false (by omega))
    go_enter Tryd.func43, Tryd.ntmps43
    go_wp2
    go_ret
    exact ⟨by rw [HE.out]; rfl, rfl⟩

/-- Strings at places. -/
def TS (w : World) (A : Option Addr) (n : Nat) : Prop := ∃ b, A = some ⟨b, 0, none⟩ ∧ b < w.heap.size ∧ ∀ i, i < n → ∃ t : ByteArray, t.size ≤ 2 ∧ w.cell? ⟨b, i, none⟩ = some (.string t)
theorem signs_any (w : World) : Calls Tryd.prog 44 #[] w fun e w' => (∃ A, e = .returned (.slice A 25 25) ∧ TS w' A 25) ∧ Below w.heap.size w w' := by
  go_enter Tryd.func44, Tryd.ntmps44
  go_wp2
  go_ret
  refine ⟨⟨_, rfl, _, rfl, by simp, fun i hi => ?_⟩, (Below.refl _ _).alloc (Nat.le_refl _) _⟩
  rcases i with _|_|_|_|_|_|_|_|_|_|_|_|_|_|_|_|_|_|_|_|_|_|_|_|_|i
  all_goals first
    | exact ⟨_, by decide, World.cell?_alloc_at _ _ _ _ rfl⟩
    | omega

set_option maxRecDepth 100000 in
set_option maxHeartbeats 4000000 in
theorem begins_let (s : ByteArray) (w : World) (h0 : 0 < s.size) (h16 : s.size ≤ 16) (hl : letB (bt s 0) = true) :
    Calls Tryd.prog 23 #[.string s, .int .i64 0] w fun e w' => (∃ q : Nat, e = .returned (.tuple #[.int .i64 q, .int .i64 1]) ∧ q ≤ s.size ∧ (q = s.size ↔ ∀ i, i < s.size → wB (bt s i) = true)) ∧ Below w.heap.size w w' := by
  have HL : Hid (letB ((s[0]'h0).toNat : Int) = true) := Lib.hid (by rw [← bt_eq h0]; exact hl)
  clear hl
  go_enter Tryd.func23, Tryd.ntmps23
  go_wp2_with fail
  refine (letter_any _ _).mono ?_
  rw [HL.out]
  rintro e w' ⟨rfl, rfl⟩
  go_wp2
  go_loop [6] (fun i => ∃ k : Nat, k ≤ s.size ∧ i = .int .i64 k ∧ Hid (∀ j, j < k → wB (bt s j) = true)) (fun i => s.size - (intOf i).toNat)
  case atStart => exact ⟨0, Nat.zero_le _, rfl, Lib.hid (fun j hj => absurd hj (Nat.not_lt_zero _))⟩
  case round =>
    obtain ⟨k, hk, rfl, HV⟩ := hrel
    by_cases hlt : k < s.size
    · obtain ⟨b, hb⟩ : ∃ b : Nat, (s[k]'hlt).toNat = b := ⟨_, rfl⟩
      have HBT : Hid (bt s k = b) := Lib.hid ((bt_eq hlt).trans hb)
      have HGO : Hid (wB b = true → ∀ j, j < k + 1 → wB (bt s j) = true) := Lib.hid (fun h j hj => by
        by_cases hjk : j = k
        · rw [hjk, HBT.out]; exact h
        · exact HV.out j (by omega))
      cases h1 : letB b with
      | true =>
        have HW := Lib.hid (HGO.out (wB_let h1))
        have H1 := Lib.hid h1
        clear h1
        go_wp2_with fail
        refine (letter_any _ _).mono ?_
        rw [H1.out]
        rintro e w' ⟨rfl, rfl⟩
        go_wp2
        go_round
        case rel => exact ⟨k + 1, by omega, by go_num, HW⟩
        case measure => simp [intOf]; omega
      | false =>
        cases h2 : digB b with
        | true =>
          have HW := Lib.hid (HGO.out (by unfold wB; rw [h1, h2]; rfl))
          have H1 := Lib.hid h1
          have H2 := Lib.hid h2
          clear h1 h2
          go_wp2_with fail
          refine (letter_any _ _).mono ?_
          rw [H1.out]
          rintro e w' ⟨rfl, rfl⟩
          go_wp2_with fail
          refine (digit_any _ _).mono ?_
          rw [H2.out]
          rintro e w' ⟨rfl, rfl⟩
          go_wp2
          go_round
          case rel => exact ⟨k + 1, by omega, by go_num, HW⟩
          case measure => simp [intOf]; omega
        | false =>
          by_cases h3 : b = 95
          · have HW := Lib.hid (HGO.out (by unfold wB; rw [h3]; decide))
            have h3' : (b : Int) = 95 := by omega
            clear h1 h2
            go_wp2_with fail
            refine (letter_any _ _).mono ?_
            rw [show letB 95 = false by decide]
            rintro e w' ⟨rfl, rfl⟩
            go_wp2_with fail
            refine (digit_any _ _).mono ?_
            rw [show digB 95 = false by decide]
            rintro e w' ⟨rfl, rfl⟩
            go_wp2
            go_round
            case rel => exact ⟨k + 1, by omega, by go_num, HW⟩
            case measure => simp [intOf]; omega
          · have HNO : Hid (¬ ∀ i, i < s.size → wB (bt s i) = true) := Lib.hid (fun h => by
              have := h k hlt
              rw [HBT.out] at this
              unfold wB at this
              rw [h1, h2, decide_eq_false h3] at this
              cases this)
            have H1 := Lib.hid h1
            have H2 := Lib.hid h2
            have h3' : ¬ (b : Int) = 95 := by omega
            clear h1 h2
            go_wp2_with fail
            refine (letter_any _ _).mono ?_
            rw [H1.out]
            rintro e w' ⟨rfl, rfl⟩
            go_wp2_with fail
            refine (digit_any _ _).mono ?_
            rw [H2.out]
            rintro e w' ⟨rfl, rfl⟩
            go_wp2
            go_ret2
            exact ⟨⟨k, rfl, hk, fun h => by omega, fun h => absurd h HNO.out⟩, Below.refl _ _⟩
    · obtain rfl : k = s.size := by omega
      go_wp2
      go_ret2
      exact ⟨⟨_, rfl, Nat.le_refl _, fun _ => HV.out, fun _ => rfl⟩, Below.refl _ _⟩

set_option maxRecDepth 100000 in
set_option maxHeartbeats 4000000 in
theorem begins_dig (s : ByteArray) (w : World) (h0 : 0 < s.size) (h16 : s.size ≤ 16) (hl : letB (bt s 0) = false) (hd : digB (bt s 0) = true) :
    Calls Tryd.prog 23 #[.string s, .int .i64 0] w fun e w' => (∃ n k : Int, e = .returned (.tuple #[.int .i64 n, .int .i64 k]) ∧ k ≠ 1) ∧ Below w.heap.size w w' := by
  have HL : Hid (letB ((s[0]'h0).toNat : Int) = false) := Lib.hid (by rw [← bt_eq h0]; exact hl)
  have HD : Hid (digB ((s[0]'h0).toNat : Int) = true) := Lib.hid (by rw [← bt_eq h0]; exact hd)
  clear hl hd
  go_enter Tryd.func23, Tryd.ntmps23
  go_wp2_with fail
  refine (letter_any _ _).mono ?_
  rw [HL.out]
  rintro e w' ⟨rfl, rfl⟩
  go_wp2_with fail
  refine (digit_any _ _).mono ?_
  rw [HD.out]
  rintro e w' ⟨rfl, rfl⟩
  go_wp2
  go_loop [6] (fun i => ∃ k : Nat, k ≤ s.size ∧ i = .int .i64 k) (fun i => s.size - (intOf i).toNat)
  case atStart => exact ⟨0, Nat.zero_le _, rfl⟩
  case round =>
    obtain ⟨k, hk, rfl⟩ := hrel
    by_cases hlt : k < s.size
    · obtain ⟨b, hb⟩ : ∃ b : Nat, (s[k]'hlt).toNat = b := ⟨_, rfl⟩
      cases h2 : digB b with
      | true =>
        have H2 := Lib.hid h2
        clear h2
        go_wp2_with fail
        refine (digit_any _ _).mono ?_
        rw [H2.out]
        rintro e w' ⟨rfl, rfl⟩
        go_wp2
        go_round
        case rel => exact ⟨k + 1, by omega, by go_num⟩
        case measure => simp [intOf]; omega
      | false =>
        have H2 := Lib.hid h2
        clear h2
        go_wp2_with fail
        refine (digit_any _ _).mono ?_
        rw [H2.out]
        rintro e w' ⟨rfl, rfl⟩
        go_wp2
        go_ret2
        exact ⟨⟨_, _, rfl, by decide⟩, Below.refl _ _⟩
    · obtain rfl : k = s.size := by omega
      go_wp2
      go_ret2
      exact ⟨⟨_, _, rfl, by decide⟩, Below.refl _ _⟩

set_option maxRecDepth 100000 in
set_option maxHeartbeats 4000000 in
theorem begins_sign (s : ByteArray) (w : World) (h0 : 0 < s.size) (h16 : s.size ≤ 16) (hl : letB (bt s 0) = false) (hd : digB (bt s 0) = false) :
    Calls Tryd.prog 23 #[.string s, .int .i64 0] w fun e w' => (∃ n k : Int, e = .returned (.tuple #[.int .i64 n, .int .i64 k]) ∧ k ≠ 1) ∧ Below w.heap.size w w' := by
  have HL : Hid (letB ((s[0]'h0).toNat : Int) = false) := Lib.hid (by rw [← bt_eq h0]; exact hl)
  have HD : Hid (digB ((s[0]'h0).toNat : Int) = false) := Lib.hid (by rw [← bt_eq h0]; exact hd)
  clear hl hd
  go_enter Tryd.func23, Tryd.ntmps23
  go_wp2_with fail
  refine (letter_any _ _).mono ?_
  rw [HL.out]
  rintro e w' ⟨rfl, rfl⟩
  go_wp2_with fail
  refine (digit_any _ _).mono ?_
  rw [HD.out]
  rintro e w' ⟨rfl, rfl⟩
  go_wp2_with fail
  refine (signs_any w).mono ?_
  rintro e w1 ⟨⟨A, rfl, bs, rfl, hbs, hcs⟩, hb1⟩
  have HCS := Lib.hid hcs
  have HB1 := Lib.hid hb1
  clear hcs hb1
  go_wp2
  go_loopw [8] (fun i wr => ∃ (k j : Nat), k ≤ 25 ∧ i = .int .i64 k ∧ wr = w1.drewN j) (fun i _ => 25 - (intOf i).toNat)
  case atStart => exact ⟨0, 0, Nat.zero_le _, rfl, rfl⟩
  case round =>
    obtain ⟨k, j, hk, rfl, rfl⟩ := hrel
    have HBJ : Hid (∀ n, Below w.heap.size w (w1.drewN n)) := Lib.hid (fun n => below_drewN HB1.out n)
    by_cases hlt : k < 25
    · obtain ⟨t, ht, ct⟩ := HCS.out k hlt
      by_cases hsz : t.size ≤ s.size
      · have hsl : ∀ W, (Instr.slice 9 (.string s) (some (.int .i64 0)) (some (.int .i64 (t.size : Int))) none).run Tryd.prog W = .ok (.string (s.extract 0 t.size)) W := fun W => by
          rw [run_slice_string W 9 s .i64 .i64 0 t.size Tryd.underlying9 (by omega) (by omega) (by omega)]
          rfl
        have q1 : IntKind.i64.wrap (0 + (t.size : Int)) = (t.size : Int) := (IntWalk.i64_in _ (by omega)).trans (by omega)
        have q2 : IntKind.i64.wrap ((s.size : Int) - 0) = (s.size : Int) := (IntWalk.i64_in _ (by omega)).trans (by omega)
        obtain ⟨bb, hbb⟩ : ∃ bb, ((s.extract 0 t.size).toList == t.toList) = bb := ⟨_, rfl⟩
        cases bb with
        | true =>
          go_wp2
          go_quiet (fail)
          go_wp2
          go_ret2
          exact ⟨⟨_, _, rfl, by decide⟩, HBJ.out _⟩
        | false =>
          go_wp2
          go_quiet (fail)
          go_wp2
          go_roundw
          case rel => exact ⟨k + 1, _, by omega, by go_num, rfl⟩
          case measure => simp [intOf]; omega
      · have q2 : IntKind.i64.wrap ((s.size : Int) - 0) = (s.size : Int) := (IntWalk.i64_in _ (by omega)).trans (by omega)
        have hsz2 : decide ((t.size : Int) ≤ (s.size : Int)) = false := decide_eq_false (by omega)
        go_wp2
        go_quiet (fail)
        go_wp2
        go_roundw
        case rel => exact ⟨k + 1, _, by omega, by go_num, rfl⟩
        case measure => simp [intOf]; omega
    · obtain rfl : k = 25 := by omega
      have HBX := HBJ.out j
      go_wp2
      go_ret2
      exact ⟨⟨_, _, rfl, by decide⟩, HBX⟩

theorem name_whole (s : ByteArray) (hk : kwB s = false) (h0 : 0 < s.size) (h16 : s.size ≤ 16) : nameB s = decide (letB (bt s 0) = true ∧ ∀ i, i < s.size → wB (bt s i) = true) := by
  unfold nameB
  rw [hk, decide_eq_true (show 1 ≤ s.size ∧ s.size ≤ 16 from ⟨h0, h16⟩)]
  simp only [Bool.not_false, Bool.true_and]
  rw [Bool.eq_iff_iff, decide_eq_true_iff, decide_eq_true_iff]
  exact stop_whole s h0
/-- What begins tells of a text that is to be a name. -/
theorem begins_any (s : ByteArray) (w : World) (hk : kwB s = false) (h0 : 0 < s.size) (h16 : s.size ≤ 16) :
    Calls Tryd.prog 23 #[.string s, .int .i64 0] w fun e w' => (∃ n k : Int, e = .returned (.tuple #[.int .i64 n, .int .i64 k]) ∧ (k == 1 && n == (s.size : Int)) = nameB s) ∧ Below w.heap.size w w' := by
  rw [name_whole s hk h0 h16]
  cases hl : letB (bt s 0) with
  | true =>
    refine (begins_let s w h0 h16 hl).mono ?_
    rintro e w' ⟨⟨q, rfl, hq, hi⟩, hb⟩
    refine ⟨⟨q, 1, rfl, ?_⟩, hb⟩
    rw [Bool.eq_iff_iff]
    simp only [BEq.rfl, Bool.true_and, beq_iff_eq, decide_eq_true_iff, true_and]
    rw [← hi]
    omega
  | false =>
    have hf : decide ((false : Bool) = true ∧ ∀ i, i < s.size → wB (bt s i) = true) = false := decide_eq_false (fun h => by cases h.1)
    rw [hf]
    have fin : ∀ (e : Ending) (w' : World), (∃ n k : Int, e = .returned (.tuple #[.int .i64 n, .int .i64 k]) ∧ k ≠ 1) ∧ Below w.heap.size w w' → (∃ n k : Int, e = .returned (.tuple #[.int .i64 n, .int .i64 k]) ∧ (k == 1 && n == (s.size : Int)) = false) ∧ Below w.heap.size w w' := by
      rintro e w' ⟨⟨n, k, rfl, h⟩, hb⟩
      exact ⟨⟨n, k, rfl, by simp [h]⟩, hb⟩
    cases hd : digB (bt s 0) with
    | true => exact (begins_dig s w h0 h16 hl hd).mono fin
    | false => exact (begins_sign s w h0 h16 hl hd).mono fin

set_option maxRecDepth 100000 in
set_option maxHeartbeats 2000000 in
theorem refName_any (s : ByteArray) (w : World) : Calls Tryd.prog 18 #[.string s] w fun e w' => e = .returned (.bool (nameB s)) ∧ Below w.heap.size w w' := by
  by_cases h0 : s.size = 0
  · have hs : s = ⟨#[]⟩ := by
      obtain ⟨d⟩ := s
      have : d.size = 0 := h0
      rw [Array.eq_empty_of_size_eq_zero this]
    subst hs
    have HE : Hid (nameB ⟨#[]⟩ = false) := Lib.hid (by unfold nameB; rw [decide_eq_false (show ¬ (1 ≤ (ByteArray.mk #[]).size ∧ (ByteArray.mk #[]).size ≤ 16) by decide)]; simp)
    rw [HE.out]
    go_enter Tryd.func18, Tryd.ntmps18
    go_wp2
    go_ret
    exact ⟨rfl, Below.refl _ _⟩
  · have hne : s.toList.isEmpty = false := by
      rw [ByteArray.toList_eq]
      cases hl : s.data.toList with
      | nil =>
        have := congrArg List.length hl
        exact absurd (by simpa using this) h0
      | cons _ _ => rfl
    have hne2 : (s.toList == []) = false := by
      cases hl : s.toList with
      | nil => rw [hl] at hne; cases hne
      | cons _ _ => rfl
    by_cases h16 : 16 < s.size
    · have HE : Hid (nameB s = false) := Lib.hid (by unfold nameB; rw [decide_eq_false (show ¬ (1 ≤ s.size ∧ s.size ≤ 16) by omega)]; simp)
      rw [HE.out]
      go_enter Tryd.func18, Tryd.ntmps18
      go_wp2
      go_ret
      exact ⟨rfl, Below.refl _ _⟩
    · obtain ⟨b1, h1⟩ : ∃ b1, (s.toList == [115, 101, 108, 102]) = b1 := ⟨_, rfl⟩
      obtain ⟨b2, h2⟩ : ∃ b2, (s.toList == [110, 111, 110, 101]) = b2 := ⟨_, rfl⟩
      obtain ⟨b3, h3⟩ : ∃ b3, (s.toList == [108, 101, 110]) = b3 := ⟨_, rfl⟩
      obtain ⟨b4, h4⟩ : ∃ b4, (s.toList == [97, 116]) = b4 := ⟨_, rfl⟩
      have HK : Hid (kwB s = (b1 || b2 || b3 || b4)) := Lib.hid (by unfold kwB kw1 kw2 kw3 kw4; rw [h1, h2, h3, h4])
      have HKE : Hid (kwB s = true → nameB s = false) := Lib.hid (fun h => by unfold nameB; rw [h]; simp)
      have hz16 : ¬ (16 : Int) < (s.size : Int) := by omega
      cases b1 with
      | true =>
        rw [HKE.out (by rw [HK.out]; rfl)]
        go_enter Tryd.func18, Tryd.ntmps18
        go_wp2
        go_ret
        exact ⟨rfl, Below.refl _ _⟩
      | false =>
      cases b2 with
      | true =>
        rw [HKE.out (by rw [HK.out]; rfl)]
        go_enter Tryd.func18, Tryd.ntmps18
        go_wp2
        go_ret
        exact ⟨rfl, Below.refl _ _⟩
      | false =>
      cases b3 with
      | true =>
        rw [HKE.out (by rw [HK.out]; rfl)]
        go_enter Tryd.func18, Tryd.ntmps18
        go_wp2
        go_ret
        exact ⟨rfl, Below.refl _ _⟩
      | false =>
      cases b4 with
      | true =>
        rw [HKE.out (by rw [HK.out]; rfl)]
        go_enter Tryd.func18, Tryd.ntmps18
        go_wp2
        go_ret
        exact ⟨rfl, Below.refl _ _⟩
      | false =>
        have HKF : Hid (kwB s = false) := Lib.hid HK.out
        go_enter Tryd.func18, Tryd.ntmps18
        go_wp2_with fail
        refine (begins_any s w HKF.out (by omega) (by omega)).mono ?_
        rintro e w' ⟨⟨n, k, rfl, hnk⟩, hb⟩
        by_cases hk1 : k = 1
        · subst hk1
          have HE : Hid ((n == (s.size : Int)) = nameB s) := Lib.hid (by rw [← hnk]; simp)
          clear hnk
          go_wp2
          go_ret
          exact ⟨by rw [← HE.out]; rfl, hb⟩
        · have HE : Hid (false = nameB s) := Lib.hid (by rw [← hnk]; simp [hk1])
          have hk2 : (k == 1) = false := by simpa using hk1
          clear hnk
          go_wp2
          go_ret
          exact ⟨by rw [← HE.out]; rfl, hb⟩
end Go.Proofs.YtcielemahmpppaaDoor.lx
