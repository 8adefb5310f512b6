/- The program's digits and line; where they stop, by bytes. -/
import Derived.Test.YtcielemahmpppaaDoorLexAll
import Derived.Lib.SpaceUEq
namespace Go.Proofs.YtcielemahmpppaaDoor.lx
open Go.ChangeShapes Go.WideShapes Go.ChangeAt Go.RowKit Go.Deep

def dgB (_ r : Nat) : Bool := digB r
def linB (_ r : Nat) : Bool := !decide (r = 10)
set_option maxRecDepth 100000 in
theorem digits1_any (pos r : Nat) (w : World) : Calls Tryd.prog 56 #[.int .i64 pos, .int .i32 r] w fun e w' => e = .returned (.bool (dgB pos r)) ∧ Below w.heap.size w w' := by
  go_enter Tryd.func56, Tryd.ntmps56
  go_wp2_with fail
  refine (isDigit_any _ _).mono ?_
  rintro e w' ⟨rfl, rfl⟩
  go_wp2
  go_ret
  exact ⟨rfl, Below.refl _ _⟩
set_option maxRecDepth 100000 in
theorem digits_any (s : ByteArray) (w : World) : Calls Tryd.prog 39 #[.string s] w fun e w' => e = .returned (.int .i64 (stopF dgB s s.size 0)) ∧ Below w.heap.size w w' := by
  have hg : AskGrows 56 #[] dgB w := fun W pos x hx _ => by
    have := digits1_any pos x W
    simpa using this
  go_enter Tryd.func39, Tryd.ntmps39
  go_wp2_with fail
  refine (run_any 56 #[] (enters_of Tryd.func56 (by kernel_rfl) rfl) dgB s w hg).mono ?_
  rintro e w' ⟨rfl, hb⟩
  go_wp2
  go_ret
  exact ⟨rfl, hb⟩
set_option maxRecDepth 100000 in
theorem line1_any (pos r : Nat) (w : World) : Calls Tryd.prog 37 #[.int .i64 pos, .int .i32 r] w fun e w' => e = .returned (.bool (linB pos r)) ∧ Below w.heap.size w w' := by
  have HE : Hid (linB pos r = ((r : Int) != 10)) := Lib.hid (by unfold linB; rw [Bool.eq_iff_iff]; simp; omega)
  go_enter Tryd.func37, Tryd.ntmps37
  go_wp2
  go_ret
  exact ⟨by rw [HE.out]; rfl, Below.refl _ _⟩
set_option maxRecDepth 100000 in
theorem line_any (s : ByteArray) (w : World) : Calls Tryd.prog 20 #[.string s] w fun e w' => e = .returned (.int .i64 (stopF linB s s.size 0)) ∧ Below w.heap.size w w' := by
  have hg : AskGrows 37 #[] linB w := fun W pos x hx _ => by
    have := line1_any pos x W
    simpa using this
  go_enter Tryd.func20, Tryd.ntmps20
  go_wp2_with fail
  refine (run_any 37 #[] (enters_of Tryd.func37 (by kernel_rfl) rfl) linB s w hg).mono ?_
  rintro e w' ⟨rfl, hb⟩
  go_wp2
  go_ret
  exact ⟨rfl, hb⟩

/-- The bytes of a rune behind its first are no bytes of Ascii, and they are there. -/
theorem high_byte {s : ByteArray} {pos k : Nat} (hp : pos < s.size) (hk : 0 < k) (hkw : k < (Utf8.decode s pos).2) : 128 ≤ bt s (pos + k) ∧ pos + k < s.size := by
  have hd := Lib.decode_at s pos
  have hc := Lib.decodeN_conts (s.size - pos) (s.get! pos).toNat (s.get! (pos + 1)).toNat (s.get! (pos + 2)).toNat (s.get! (pos + 3)).toNat
  rw [← hd] at hc
  obtain ⟨c2, c3, c4, c5⟩ := hc
  unfold bt
  obtain rfl | rfl | rfl : k = 1 ∨ k = 2 ∨ k = 3 := by omega
  · obtain ⟨h1, h2⟩ := c2 (by omega); exact ⟨by omega, by omega⟩
  · obtain ⟨h1, h2⟩ := c3 (by omega); exact ⟨by omega, by omega⟩
  · obtain ⟨h1, h2⟩ := c4 (by omega); exact ⟨by omega, by omega⟩
theorem width_in {s : ByteArray} {pos : Nat} (hp : pos < s.size) : 1 ≤ (Utf8.decode s pos).2 ∧ pos + (Utf8.decode s pos).2 ≤ s.size := by
  have h1 := Lib.width_pos s pos
  refine ⟨h1, ?_⟩
  by_cases h : (Utf8.decode s pos).2 = 1
  · omega
  · have := (high_byte (k := (Utf8.decode s pos).2 - 1) hp (by omega) (by omega)).2
    omega
theorem rune_low {s : ByteArray} {pos : Nat} (hp : pos < s.size) (h : (Utf8.decode s pos).1 < 128) : (Utf8.decode s pos).1 = bt s pos ∧ bt s pos < 128 := by
  rcases Nat.lt_or_ge (bt s pos) 128 with h1 | h1
  · rw [decode_low hp h1]; exact ⟨rfl, h1⟩
  · have := (decode_high s pos hp (by rw [← bt_eq hp]; exact h1)).1
    omega
/-- Where line stops: at the first line's end, or behind all. -/
theorem line_spec (s : ByteArray) : ∀ f pos, s.size ≤ pos + f → pos ≤ s.size → pos ≤ stopF linB s f pos ∧ stopF linB s f pos ≤ s.size ∧ (∀ i, pos ≤ i → i < stopF linB s f pos → bt s i ≠ 10) ∧ (stopF linB s f pos < s.size → bt s (stopF linB s f pos) = 10)
  | 0, pos, h, hp => by
    show pos ≤ s.size ∧ s.size ≤ s.size ∧ (∀ i, pos ≤ i → i < s.size → _) ∧ (s.size < s.size → _)
    exact ⟨hp, Nat.le_refl _, fun i h1 h2 => by omega, fun h1 => by omega⟩
  | f + 1, pos, h, hp => by
    by_cases hlt : pos < s.size
    · unfold stopF
      rw [if_pos hlt]
      obtain ⟨w1, w2⟩ := width_in hlt
      by_cases hr : (Utf8.decode s pos).1 = 10
      · rw [show linB pos (Utf8.decode s pos).1 = false by unfold linB; rw [hr]; rfl]
        simp only [Bool.false_eq_true, if_false]
        refine ⟨Nat.le_refl _, hp, fun i h1 h2 => by omega, fun _ => ?_⟩
        rw [← (rune_low hlt (by omega)).1, hr]
      · rw [show linB pos (Utf8.decode s pos).1 = true by unfold linB; rw [decide_eq_false hr]; rfl]
        simp only [if_true]
        obtain ⟨a1, a2, a3, a4⟩ := line_spec s f (pos + (Utf8.decode s pos).2) (by omega) w2
        refine ⟨by omega, a2, fun i h1 h2 => ?_, a4⟩
        by_cases hi : i < pos + (Utf8.decode s pos).2
        · by_cases he : i = pos
          · subst he
            intro h10
            have := decode_low hlt (by omega)
            rw [this] at hr
            exact hr h10
          · have := (high_byte (k := i - pos) hlt (by omega) (by omega)).1
            rw [show pos + (i - pos) = i by omega] at this
            omega
        · exact a3 i (by omega) h2
    · rw [stopF_end linB s (f + 1) pos hlt]
      exact ⟨hp, Nat.le_refl _, fun i h1 h2 => by omega, fun h1 => by omega⟩
/-- Where a run stops that takes Ascii alone: at the first byte that it does not take, or behind all. -/
theorem low_spec {p : Nat → Nat → Bool} (hh : ∀ pos r, 128 ≤ r → p pos r = false) (s : ByteArray) : ∀ f pos, s.size ≤ pos + f → pos ≤ s.size → pos ≤ stopF p s f pos ∧ stopF p s f pos ≤ s.size ∧ (∀ i, pos ≤ i → i < stopF p s f pos → p i (bt s i) = true) ∧ (stopF p s f pos < s.size → p (stopF p s f pos) (bt s (stopF p s f pos)) = false)
  | 0, pos, h, hp => by
    show pos ≤ s.size ∧ s.size ≤ s.size ∧ (∀ i, pos ≤ i → i < s.size → _) ∧ (s.size < s.size → _)
    exact ⟨hp, Nat.le_refl _, fun i h1 h2 => by omega, fun h1 => by omega⟩
  | f + 1, pos, h, hp => by
    by_cases hlt : pos < s.size
    · unfold stopF
      rw [if_pos hlt]
      cases hq : p pos (Utf8.decode s pos).1 with
      | false =>
        simp only [Bool.false_eq_true, if_false]
        refine ⟨Nat.le_refl _, hp, fun i h1 h2 => by omega, fun _ => ?_⟩
        rcases Nat.lt_or_ge (bt s pos) 128 with h1 | h1
        · rw [decode_low hlt h1] at hq; exact hq
        · exact hh _ _ h1
      | true =>
        have hl : (Utf8.decode s pos).1 < 128 := by
          rcases Nat.lt_or_ge (Utf8.decode s pos).1 128 with h1 | h1
          · exact h1
          · rw [hh _ _ h1] at hq; cases hq
        obtain ⟨e1, e2⟩ := rune_low hlt hl
        rw [decode_low hlt e2] at hq ⊢
        simp only [if_true]
        obtain ⟨a1, a2, a3, a4⟩ := low_spec hh s f (pos + 1) (by omega) (by omega)
        refine ⟨by omega, a2, fun i h1 h2 => ?_, a4⟩
        by_cases he : i = pos
        · subst he; exact hq
        · exact a3 i (by omega) h2
    · rw [stopF_end p s (f + 1) pos hlt]
      exact ⟨hp, Nat.le_refl _, fun i h1 h2 => by omega, fun h1 => by omega⟩
theorem dgB_high (pos r : Nat) (h : 128 ≤ r) : dgB pos r = false := digB_high h
theorem okB_high' (pos r : Nat) (h : 128 ≤ r) : okB pos r = false := okB_high h
/-- Two places with one and the same word for 'the first from here on' are one. -/
theorem first_one {q : Nat → Prop} {n pos a b : Nat} (ha : pos ≤ a ∧ a ≤ n ∧ (∀ i, pos ≤ i → i < a → q i) ∧ (a < n → ¬ q a)) (hb : pos ≤ b ∧ b ≤ n ∧ (∀ i, pos ≤ i → i < b → q i) ∧ (b < n → ¬ q b)) : a = b := by
  rcases Nat.lt_trichotomy a b with h | h | h
  · exact absurd (hb.2.2.1 a ha.1 h) (ha.2.2.2 (by omega))
  · exact h
  · exact absurd (ha.2.2.1 b hb.1 h) (hb.2.2.2 (by omega))
/-- The first place from one on at which a byte is none of p's, or behind all. -/
def runE (p : Nat → Bool) (s : ByteArray) : Nat → Nat → Nat
  | 0, pos => pos
  | f + 1, pos => if pos < s.size then (if p (bt s pos) then runE p s f (pos + 1) else pos) else pos
theorem runE_spec (p : Nat → Bool) (s : ByteArray) : ∀ f pos, s.size ≤ pos + f → pos ≤ s.size → pos ≤ runE p s f pos ∧ runE p s f pos ≤ s.size ∧ (∀ i, pos ≤ i → i < runE p s f pos → p (bt s i) = true) ∧ (runE p s f pos < s.size → ¬ p (bt s (runE p s f pos)) = true)
  | 0, pos, h, hp => by
    show pos ≤ pos ∧ pos ≤ s.size ∧ (∀ i, pos ≤ i → i < pos → _) ∧ (pos < s.size → _)
    exact ⟨Nat.le_refl _, hp, fun i h1 h2 => by omega, fun h1 => by omega⟩
  | f + 1, pos, h, hp => by
    unfold runE
    by_cases hlt : pos < s.size
    · rw [if_pos hlt]
      by_cases hq : p (bt s pos) = true
      · rw [if_pos hq]
        obtain ⟨a1, a2, a3, a4⟩ := runE_spec p s f (pos + 1) (by omega) (by omega)
        refine ⟨by omega, a2, fun i h1 h2 => ?_, a4⟩
        by_cases he : i = pos
        · subst he; exact hq
        · exact a3 i (by omega) h2
      · rw [if_neg hq]
        exact ⟨Nat.le_refl _, hp, fun i h1 h2 => by omega, fun _ => hq⟩
    · rw [if_neg hlt]
      exact ⟨Nat.le_refl _, hp, fun i h1 h2 => by omega, fun h1 => by omega⟩
/-- A text from a place on. -/
def tailS (s : ByteArray) (at' : Nat) : ByteArray := s.extract at' s.size
theorem tail_size {s : ByteArray} {a : Nat} : (tailS s a).size = s.size - a := by unfold tailS; simp [ByteArray.size_extract]
theorem tail_bt {s : ByteArray} {a i : Nat} (hi : a + i < s.size) : bt (tailS s a) i = bt s (a + i) := by
  have h1 : i < (s.extract a s.size).size := by have := tail_size (s := s) (a := a); unfold tailS at this; omega
  rw [show bt (tailS s a) i = bt (s.extract a s.size) i from rfl, bt_eq h1, bt_eq hi]
  simp [ByteArray.getElem_extract]
/-- How many bytes the word, the number, the sign have that a text begins with. -/
def wordN (s : ByteArray) : Nat := stopF okB s s.size 0
def digN (s : ByteArray) : Nat := stopF dgB s s.size 0
def twoB (a b : Nat) : Bool := (a == 58 && b == 61) || (a == 61 && b == 61) || (a == 33 && b == 61) || (a == 60 && b == 61) || (a == 45 && b == 62) || (a == 38 && b == 38) || (a == 124 && b == 124) || (a == 61 && b == 62)
def oneB (a : Nat) : Bool := a == 40 || a == 41 || a == 91 || a == 93 || a == 123 || a == 125 || a == 59 || a == 44 || a == 58 || a == 46 || a == 60 || a == 43 || a == 45 || a == 42 || a == 33 || a == 63 || a == 64
def signN (s : ByteArray) : Nat := if 1 < s.size ∧ twoB (bt s 0) (bt s 1) = true then 2 else if 0 < s.size ∧ oneB (bt s 0) = true then 1 else 0
/-- The word, by bytes. -/
theorem wordN_eq (s : ByteArray) (a : Nat) (h : a < s.size) : a + wordN (tailS s a) = if letB (bt s a) then runE wB s s.size a else a := by
  have hz : (tailS s a).size = s.size - a := tail_size
  obtain ⟨h1, h2, h3, h4⟩ := low_spec okB_high' (tailS s a) (tailS s a).size 0 (by omega) (by omega)
  have hb0 : bt (tailS s a) 0 = bt s a := by rw [tail_bt (by omega)]; rfl
  have hbi : ∀ i, i < s.size - a → bt (tailS s a) i = bt s (a + i) := fun i hi => tail_bt (by omega)
  unfold wordN
  obtain ⟨e, he⟩ : ∃ e, stopF okB (tailS s a) (tailS s a).size 0 = e := ⟨_, rfl⟩
  rw [he] at h1 h2 h3 h4 ⊢
  by_cases hl : letB (bt s a) = true
  · rw [if_pos hl]
    refine first_one (q := fun i => wB (bt s i) = true) (n := s.size) (pos := a) ⟨by omega, by omega, fun i g1 g2 => ?_, fun g => ?_⟩ (runE_spec wB s s.size a (by omega) (by omega))
    · have := h3 (i - a) (by omega) (by omega)
      rw [hbi _ (by omega), show a + (i - a) = i by omega] at this
      by_cases e0 : i - a = 0
      · rw [e0, ok_first] at this; exact wB_let this
      · rw [ok_later (by omega)] at this; exact this
    · have h5 := h4 (by omega)
      rw [hbi _ (by omega)] at h5
      by_cases e0 : e = 0
      · subst e0
        rw [ok_first, Nat.add_zero] at h5
        rw [hl] at h5; cases h5
      · rw [ok_later (by omega)] at h5
        simp [h5]
  · rw [if_neg hl]
    by_cases e0 : e = 0
    · rw [e0]; rfl
    · have := h3 0 (Nat.le_refl _) (by omega)
      rw [ok_first, hb0] at this
      exact absurd this hl
theorem digN_eq (s : ByteArray) (a : Nat) (h : a < s.size) : a + digN (tailS s a) = runE (fun b => digB b) s s.size a := by
  have hz : (tailS s a).size = s.size - a := tail_size
  obtain ⟨h1, h2, h3, h4⟩ := low_spec dgB_high (tailS s a) (tailS s a).size 0 (by omega) (by omega)
  have hbi : ∀ i, i < s.size - a → bt (tailS s a) i = bt s (a + i) := fun i hi => tail_bt (by omega)
  unfold digN
  obtain ⟨e, he⟩ : ∃ e, stopF dgB (tailS s a) (tailS s a).size 0 = e := ⟨_, rfl⟩
  rw [he] at h1 h2 h3 h4 ⊢
  refine first_one (q := fun i => digB (bt s i) = true) (n := s.size) (pos := a) ⟨by omega, by omega, fun i g1 g2 => ?_, fun g => ?_⟩ (runE_spec (fun b => digB b) s s.size a (by omega) (by omega))
  · have := h3 (i - a) (by omega) (by omega)
    rw [hbi _ (by omega), show a + (i - a) = i by omega] at this
    exact this
  · have h5 := h4 (by omega)
    rw [hbi _ (by omega)] at h5
    show ¬ digB (bt s (a + e)) = true
    rw [show digB (bt s (a + e)) = false from h5]
    decide
/-- Where the remark that begins at a place ends: at the first line's end, or behind all. -/
theorem lineN_eq (s : ByteArray) (a : Nat) (h : a < s.size) : a + stopF linB (tailS s a) (tailS s a).size 0 = runE (fun b => !decide (b = 10)) s s.size a := by
  have hz : (tailS s a).size = s.size - a := tail_size
  obtain ⟨h1, h2, h3, h4⟩ := line_spec (tailS s a) (tailS s a).size 0 (by omega) (by omega)
  have hbi : ∀ i, i < s.size - a → bt (tailS s a) i = bt s (a + i) := fun i hi => tail_bt (by omega)
  obtain ⟨e, he⟩ : ∃ e, stopF linB (tailS s a) (tailS s a).size 0 = e := ⟨_, rfl⟩
  rw [he] at h1 h2 h3 h4 ⊢
  refine first_one (q := fun i => (!decide (bt s i = 10)) = true) (n := s.size) (pos := a) ⟨by omega, by omega, fun i g1 g2 => ?_, fun g => ?_⟩ (runE_spec (fun b => !decide (b = 10)) s s.size a (by omega) (by omega))
  · have := h3 (i - a) (by omega) (by omega)
    rw [hbi _ (by omega), show a + (i - a) = i by omega] at this
    simp [this]
  · have h5 := h4 (by omega)
    rw [hbi _ (by omega)] at h5
    simp [h5]

/-- The runes from one place on come to another one. -/
inductive Hits (s : ByteArray) : Nat → Nat → Prop
  | here (a : Nat) : Hits s a a
  | on {a b : Nat} (h : a < s.size) (hh : Hits s (a + (Utf8.decode s a).2) b) : Hits s a b
theorem Hits.le {s : ByteArray} {a b : Nat} (h : Hits s a b) : a ≤ b := by
  induction h with
  | here => exact Nat.le_refl _
  | on h _ ih => omega
theorem Hits.next {s : ByteArray} {a b : Nat} (h : Hits s a b) (hlt : a < b) : Hits s (a + (Utf8.decode s a).2) b := by
  cases h with
  | here => omega
  | on _ hh => exact hh
/-- .. where the other one is the end, or an Ascii byte. -/
theorem hits_low (s : ByteArray) : ∀ d a b, b ≤ a + d → a ≤ b → b ≤ s.size → (b < s.size → bt s b < 128) → Hits s a b
  | 0, a, b, h, h1, _, _ => by rw [show b = a by omega]; exact .here a
  | d + 1, a, b, h, h1, h2, h3 => by
    by_cases e : a = b
    · subst e; exact .here _
    · obtain ⟨w1, w2⟩ := width_in (s := s) (pos := a) (by omega)
      refine .on (by omega) (hits_low s d _ b (by omega) ?_ h2 h3)
      refine Decidable.byContradiction fun hn => ?_
      have := (high_byte (s := s) (pos := a) (k := b - a) (by omega) (by omega) (by omega))
      rw [show a + (b - a) = b by omega] at this
      have := h3 this.2
      omega
/-- .. where all between them are Ascii bytes. -/
theorem hits_all (s : ByteArray) : ∀ d a b, b = a + d → b ≤ s.size → (∀ i, a ≤ i → i < b → bt s i < 128) → Hits s a b
  | 0, a, b, h, _, _ => by subst h; exact .here _
  | d + 1, a, b, h, h2, h3 => by
    refine .on (by omega) ?_
    rw [decode_low (by omega) (h3 a (Nat.le_refl _) (by omega))]
    exact hits_all s d (a + 1) b (by omega) h2 (fun i g1 g2 => h3 i (by omega) g2)
end Go.Proofs.YtcielemahmpppaaDoor.lx
