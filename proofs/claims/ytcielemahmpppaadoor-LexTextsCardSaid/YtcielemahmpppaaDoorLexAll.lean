/- Names, plain: a text is one word just if each of its bytes may stand where it stands. -/
import Derived.Test.YtcielemahmpppaaDoorLexName
namespace Go.Proofs.YtcielemahmpppaaDoor.lx
open Go.ChangeShapes Go.WideShapes Go.ChangeAt Go.RowKit Go.Deep

def bt (s : ByteArray) (i : Nat) : Nat := (s.get! i).toNat
theorem letB_high {r : Nat} (h : 128 ≤ r) : letB r = false := decide_eq_false (by omega)
theorem digB_high {r : Nat} (h : 128 ≤ r) : digB r = false := decide_eq_false (by omega)
theorem okB_high {pos r : Nat} (h : 128 ≤ r) : okB pos r = false := by
  unfold okB
  rw [letB_high h, digB_high h, decide_eq_false (show ¬ r = 95 by omega)]
  simp
theorem okB_low {pos r : Nat} (h : okB pos r = true) : r < 128 := by
  rcases Nat.lt_or_ge r 128 with h1 | h1
  · exact h1
  · rw [okB_high h1] at h; cases h
theorem bt_eq {s : ByteArray} {pos : Nat} (h : pos < s.size) : bt s pos = (s[pos]'h).toNat := by
  unfold bt
  have := get_at s pos h
  rw [Nat.add_zero] at this
  rw [this]
theorem decode_low {s : ByteArray} {pos : Nat} (h : pos < s.size) (hb : bt s pos < 128) : Utf8.decode s pos = (bt s pos, 1) := by
  rw [bt_eq h] at hb ⊢
  exact decode_ascii s pos h hb
theorem ok_decode {s : ByteArray} {pos : Nat} (h : pos < s.size) : okB pos (Utf8.decode s pos).1 = okB pos (bt s pos) := by
  rcases Nat.lt_or_ge (bt s pos) 128 with h1 | h1
  · rw [decode_low h h1]
  · rw [okB_high h1, okB_high (decode_high s pos h (by rw [← bt_eq h]; exact h1)).1]
theorem stop_iff (s : ByteArray) : ∀ f pos, s.size ≤ pos + f → (stopF okB s f pos = s.size ↔ ∀ i, pos ≤ i → i < s.size → okB i (bt s i) = true)
  | 0, pos, h => ⟨fun _ i h1 h2 => by omega, fun _ => rfl⟩
  | f + 1, pos, h => by
    by_cases hp : pos < s.size
    · unfold stopF
      rw [if_pos hp, ok_decode hp]
      cases hk : okB pos (bt s pos) with
      | false =>
        simp only [Bool.false_eq_true, if_false]
        refine ⟨fun h2 => by omega, fun h2 => ?_⟩
        have := h2 pos (Nat.le_refl _) hp
        rw [hk] at this
        cases this
      | true =>
        simp only [if_true]
        have hd := decode_low hp (okB_low hk)
        rw [hd]
        rw [stop_iff s f (pos + 1) (by omega)]
        refine ⟨fun h2 i h3 h4 => ?_, fun h2 i h3 h4 => h2 i (by omega) h4⟩
        rcases Nat.eq_or_lt_of_le h3 with rfl | h5
        · exact hk
        · exact h2 i (by omega) h4
    · rw [stopF_end okB s (f + 1) pos hp]
      exact ⟨fun _ i h1 h2 => by omega, fun _ => rfl⟩
/-- A byte of a word that is not the first. -/
def wB (b : Nat) : Bool := letB b || digB b || decide (b = 95)
theorem ok_first (b : Nat) : okB 0 b = letB b := by unfold okB; simp
theorem ok_later {i b : Nat} (h : 0 < i) : okB i b = wB b := by unfold okB wB; rw [decide_eq_true h, Bool.true_and, Bool.or_assoc]
theorem wB_let {b : Nat} (h : letB b = true) : wB b = true := by unfold wB; rw [h]; rfl
/-- .. by the first byte and the others. -/
theorem stop_whole (s : ByteArray) (h0 : 0 < s.size) : stopF okB s s.size 0 = s.size ↔ letB (bt s 0) = true ∧ ∀ i, i < s.size → wB (bt s i) = true := by
  rw [stop_iff s s.size 0 (by omega)]
  refine ⟨fun h => ⟨by rw [← ok_first]; exact h 0 (Nat.le_refl _) h0, fun i hi => ?_⟩, fun h i _ hi => ?_⟩
  · rcases Nat.eq_zero_or_pos i with rfl | h1
    · exact wB_let (by rw [← ok_first]; exact h 0 (Nat.le_refl _) h0)
    · rw [← ok_later h1]; exact h i (Nat.zero_le _) hi
  · rcases Nat.eq_zero_or_pos i with rfl | h1
    · rw [ok_first]; exact h.1
    · rw [ok_later h1]; exact h.2 i hi
end Go.Proofs.YtcielemahmpppaaDoor.lx
