/- Contracts that the claim stands on, several texts in one: LexStop, LexScan, EtPure. -/
import Derived.Lib.SpaceUEq
import Derived.Test.YtmnigdphikoljaaGreatDoorPut1
import Derived.Test.YtmnigdphikoljaaGreatDoorPut2
import Derived.Test.YtmnigdphikoljaaGreatDoorPut3
import Derived.Test.YtmnigdphikoljaaGreatDoorPut4
namespace Go.Proofs.YtmnigdphikoljaaGreatDoor.lx
open Go.ChangeShapes Go.WideShapes Go.ChangeAt Go.RowKit Go.Deep

def dgB (_ r : Nat) : Bool := digB r
def linB (_ r : Nat) : Bool := !decide (r = 10)
set_option maxRecDepth 100000 in
theorem digits1_any (pos r : Nat) (w : World) : Calls Tryz.prog 137 #[.int .i64 pos, .int .i32 r] w fun e w' => e = .returned (.bool (dgB pos r)) ∧ Below w.heap.size w w' := by
  go_enter Tryz.func137, Tryz.ntmps137
  go_wp2_with fail
  refine (isDigit_any _ _).mono ?_
  rintro e w' ⟨rfl, rfl⟩
  go_wp2
  go_ret
  exact ⟨rfl, Below.refl _ _⟩
set_option maxRecDepth 100000 in
theorem digits_any (s : ByteArray) (w : World) : Calls Tryz.prog 96 #[.string s] w fun e w' => e = .returned (.int .i64 (stopF dgB s s.size 0)) ∧ Below w.heap.size w w' := by
  have hg : AskGrows 137 #[] dgB w := fun W pos x hx _ => by
    have := digits1_any pos x W
    simpa using this
  go_enter Tryz.func96, Tryz.ntmps96
  go_wp2_with fail
  refine (run_any 137 #[] (enters_of Tryz.func137 (by kernel_rfl) rfl) dgB s w hg).mono ?_
  rintro e w' ⟨rfl, hb⟩
  go_wp2
  go_ret
  exact ⟨rfl, hb⟩
set_option maxRecDepth 100000 in
theorem line1_any (pos r : Nat) (w : World) : Calls Tryz.prog 94 #[.int .i64 pos, .int .i32 r] w fun e w' => e = .returned (.bool (linB pos r)) ∧ Below w.heap.size w w' := by
  have HE : Hid (linB pos r = ((r : Int) != 10)) := Lib.hid (by unfold linB; rw [Bool.eq_iff_iff]; simp; omega)
  go_enter Tryz.func94, Tryz.ntmps94
  go_wp2
  go_ret
  exact ⟨by rw [HE.out]; rfl, Below.refl _ _⟩
set_option maxRecDepth 100000 in
theorem line_any (s : ByteArray) (w : World) : Calls Tryz.prog 61 #[.string s] w fun e w' => e = .returned (.int .i64 (stopF linB s s.size 0)) ∧ Below w.heap.size w w' := by
  have hg : AskGrows 94 #[] linB w := fun W pos x hx _ => by
    have := line1_any pos x W
    simpa using this
  go_enter Tryz.func61, Tryz.ntmps61
  go_wp2_with fail
  refine (run_any 94 #[] (enters_of Tryz.func94 (by kernel_rfl) rfl) linB s w hg).mono ?_
  rintro e w' ⟨rfl, hb⟩
  go_wp2
  go_ret
  exact ⟨rfl, hb⟩

/-- The bytes of a rune behind its first are no bytes of Ascii, and they are there. -/
theorem high_byte {s : ByteArray} {pos k : Nat} (hp : pos < s.size) (hk : 0 < k) (hkw : k < (Utf8.decode s pos).2) : 128 ≤ bt s (pos + k) ∧ pos + k < s.size := by
  have hd := Lib.decode_at s pos
  have hc := Lib.decodeN_conts (s.size - pos) (s.get! pos).toNat (s.get! (pos + 1)).toNat (s.get! (pos + 2)).toNat (s.get! (pos + 3)).toNat
  rw [← hd] at hc
  obtain ⟨c2, c3, c4, c5⟩ := hc
  unfold bt
  obtain rfl | rfl | rfl : k = 1 ∨ k = 2 ∨ k = 3 := by omega
  · obtain ⟨h1, h2⟩ := c2 (by omega); exact ⟨by omega, by omega⟩
  · obtain ⟨h1, h2⟩ := c3 (by omega); exact ⟨by omega, by omega⟩
  · obtain ⟨h1, h2⟩ := c4 (by omega); exact ⟨by omega, by omega⟩
theorem width_in {s : ByteArray} {pos : Nat} (hp : pos < s.size) : 1 ≤ (Utf8.decode s pos).2 ∧ pos + (Utf8.decode s pos).2 ≤ s.size := by
  have h1 := Lib.width_pos s pos
  refine ⟨h1, ?_⟩
  by_cases h : (Utf8.decode s pos).2 = 1
  · omega
  · have := (high_byte (k := (Utf8.decode s pos).2 - 1) hp (by omega) (by omega)).2
    omega
theorem rune_low {s : ByteArray} {pos : Nat} (hp : pos < s.size) (h : (Utf8.decode s pos).1 < 128) : (Utf8.decode s pos).1 = bt s pos ∧ bt s pos < 128 := by
  rcases Nat.lt_or_ge (bt s pos) 128 with h1 | h1
  · rw [decode_low hp h1]; exact ⟨rfl, h1⟩
  · have := (decode_high s pos hp (by rw [← bt_eq hp]; exact h1)).1
    omega
/-- Where line stops: at the first line's end, or behind all. -/
theorem line_spec (s : ByteArray) : ∀ f pos, s.size ≤ pos + f → pos ≤ s.size → pos ≤ stopF linB s f pos ∧ stopF linB s f pos ≤ s.size ∧ (∀ i, pos ≤ i → i < stopF linB s f pos → bt s i ≠ 10) ∧ (stopF linB s f pos < s.size → bt s (stopF linB s f pos) = 10)
  | 0, pos, h, hp => by
    show pos ≤ s.size ∧ s.size ≤ s.size ∧ (∀ i, pos ≤ i → i < s.size → _) ∧ (s.size < s.size → _)
    exact ⟨hp, Nat.le_refl _, fun i h1 h2 => by omega, fun h1 => by omega⟩
  | f + 1, pos, h, hp => by
    by_cases hlt : pos < s.size
    · unfold stopF
      rw [if_pos hlt]
      obtain ⟨w1, w2⟩ := width_in hlt
      by_cases hr : (Utf8.decode s pos).1 = 10
      · rw [show linB pos (Utf8.decode s pos).1 = false by unfold linB; rw [hr]; rfl]
        simp only [Bool.false_eq_true, if_false]
        refine ⟨Nat.le_refl _, hp, fun i h1 h2 => by omega, fun _ => ?_⟩
        rw [← (rune_low hlt (by omega)).1, hr]
      · rw [show linB pos (Utf8.decode s pos).1 = true by unfold linB; rw [decide_eq_false hr]; rfl]
        simp only [if_true]
        obtain ⟨a1, a2, a3, a4⟩ := line_spec s f (pos + (Utf8.decode s pos).2) (by omega) w2
        refine ⟨by omega, a2, fun i h1 h2 => ?_, a4⟩
        by_cases hi : i < pos + (Utf8.decode s pos).2
        · by_cases he : i = pos
          · subst he
            intro h10
            have := decode_low hlt (by omega)
            rw [this] at hr
            exact hr h10
          · have := (high_byte (k := i - pos) hlt (by omega) (by omega)).1
            rw [show pos + (i - pos) = i by omega] at this
            omega
        · exact a3 i (by omega) h2
    · rw [stopF_end linB s (f + 1) pos hlt]
      exact ⟨hp, Nat.le_refl _, fun i h1 h2 => by omega, fun h1 => by omega⟩
/-- Where a run stops that takes Ascii alone: at the first byte that it does not take, or behind all. -/
theorem low_spec {p : Nat → Nat → Bool} (hh : ∀ pos r, 128 ≤ r → p pos r = false) (s : ByteArray) : ∀ f pos, s.size ≤ pos + f → pos ≤ s.size → pos ≤ stopF p s f pos ∧ stopF p s f pos ≤ s.size ∧ (∀ i, pos ≤ i → i < stopF p s f pos → p i (bt s i) = true) ∧ (stopF p s f pos < s.size → p (stopF p s f pos) (bt s (stopF p s f pos)) = false)
  | 0, pos, h, hp => by
    show pos ≤ s.size ∧ s.size ≤ s.size ∧ (∀ i, pos ≤ i → i < s.size → _) ∧ (s.size < s.size → _)
    exact ⟨hp, Nat.le_refl _, fun i h1 h2 => by omega, fun h1 => by omega⟩
  | f + 1, pos, h, hp => by
    by_cases hlt : pos < s.size
    · unfold stopF
      rw [if_pos hlt]
      cases hq : p pos (Utf8.decode s pos).1 with
      | false =>
        simp only [Bool.false_eq_true, if_false]
        refine ⟨Nat.le_refl _, hp, fun i h1 h2 => by omega, fun _ => ?_⟩
        rcases Nat.lt_or_ge (bt s pos) 128 with h1 | h1
        · rw [decode_low hlt h1] at hq; exact hq
        · exact hh _ _ h1
      | true =>
        have hl : (Utf8.decode s pos).1 < 128 := by
          rcases Nat.lt_or_ge (Utf8.decode s pos).1 128 with h1 | h1
          · exact h1
          · rw [hh _ _ h1] at hq; cases hq
        obtain ⟨e1, e2⟩ := rune_low hlt hl
        rw [decode_low hlt e2] at hq ⊢
        simp only [if_true]
        obtain ⟨a1, a2, a3, a4⟩ := low_spec hh s f (pos + 1) (by omega) (by omega)
        refine ⟨by omega, a2, fun i h1 h2 => ?_, a4⟩
        by_cases he : i = pos
        · subst he; exact hq
        · exact a3 i (by omega) h2
    · rw [stopF_end p s (f + 1) pos hlt]
      exact ⟨hp, Nat.le_refl _, fun i h1 h2 => by omega, fun h1 => by omega⟩
theorem dgB_high (pos r : Nat) (h : 128 ≤ r) : dgB pos r = false := digB_high h
theorem okB_high' (pos r : Nat) (h : 128 ≤ r) : okB pos r = false := okB_high h
/-- Two places with one and the same word for 'the first from here on' are one. -/
theorem first_one {q : Nat → Prop} {n pos a b : Nat} (ha : pos ≤ a ∧ a ≤ n ∧ (∀ i, pos ≤ i → i < a → q i) ∧ (a < n → ¬ q a)) (hb : pos ≤ b ∧ b ≤ n ∧ (∀ i, pos ≤ i → i < b → q i) ∧ (b < n → ¬ q b)) : a = b := by
  rcases Nat.lt_trichotomy a b with h | h | h
  · exact absurd (hb.2.2.1 a ha.1 h) (ha.2.2.2 (by omega))
  · exact h
  · exact absurd (ha.2.2.1 b hb.1 h) (hb.2.2.2 (by omega))
/-- The first place from one on at which a byte is none of p's, or behind all. -/
def runE (p : Nat → Bool) (s : ByteArray) : Nat → Nat → Nat
  | 0, pos => pos
  | f + 1, pos => if pos < s.size then (if p (bt s pos) then runE p s f (pos + 1) else pos) else pos
theorem runE_spec (p : Nat → Bool) (s : ByteArray) : ∀ f pos, s.size ≤ pos + f → pos ≤ s.size → pos ≤ runE p s f pos ∧ runE p s f pos ≤ s.size ∧ (∀ i, pos ≤ i → i < runE p s f pos → p (bt s i) = true) ∧ (runE p s f pos < s.size → ¬ p (bt s (runE p s f pos)) = true)
  | 0, pos, h, hp => by
    show pos ≤ pos ∧ pos ≤ s.size ∧ (∀ i, pos ≤ i → i < pos → _) ∧ (pos < s.size → _)
    exact ⟨Nat.le_refl _, hp, fun i h1 h2 => by omega, fun h1 => by omega⟩
  | f + 1, pos, h, hp => by
    unfold runE
    by_cases hlt : pos < s.size
    · rw [if_pos hlt]
      by_cases hq : p (bt s pos) = true
      · rw [if_pos hq]
        obtain ⟨a1, a2, a3, a4⟩ := runE_spec p s f (pos + 1) (by omega) (by omega)
        refine ⟨by omega, a2, fun i h1 h2 => ?_, a4⟩
        by_cases he : i = pos
        · subst he; exact hq
        · exact a3 i (by omega) h2
      · rw [if_neg hq]
        exact ⟨Nat.le_refl _, hp, fun i h1 h2 => by omega, fun _ => hq⟩
    · rw [if_neg hlt]
      exact ⟨Nat.le_refl _, hp, fun i h1 h2 => by omega, fun h1 => by omega⟩
/-- A text from a place on. -/
def tailS (s : ByteArray) (at' : Nat) : ByteArray := s.extract at' s.size
theorem tail_size {s : ByteArray} {a : Nat} : (tailS s a).size = s.size - a := by unfold tailS; simp [ByteArray.size_extract]
theorem tail_bt {s : ByteArray} {a i : Nat} (hi : a + i < s.size) : bt (tailS s a) i = bt s (a + i) := by
  have h1 : i < (s.extract a s.size).size := by have := tail_size (s := s) (a := a); unfold tailS at this; omega
  rw [show bt (tailS s a) i = bt (s.extract a s.size) i from rfl, bt_eq h1, bt_eq hi]
  simp [ByteArray.getElem_extract]
/-- How many bytes the word, the number, the sign have that a text begins with. -/
def wordN (s : ByteArray) : Nat := stopF okB s s.size 0
def digN (s : ByteArray) : Nat := stopF dgB s s.size 0
def twoB (a b : Nat) : Bool := (a == 58 && b == 61) || (a == 61 && b == 61) || (a == 33 && b == 61) || (a == 60 && b == 61) || (a == 45 && b == 62) || (a == 38 && b == 38) || (a == 124 && b == 124) || (a == 61 && b == 62)
def oneB (a : Nat) : Bool := a == 40 || a == 41 || a == 91 || a == 93 || a == 123 || a == 125 || a == 59 || a == 44 || a == 58 || a == 46 || a == 60 || a == 43 || a == 45 || a == 42 || a == 33 || a == 63 || a == 64
def signN (s : ByteArray) : Nat := if 1 < s.size ∧ twoB (bt s 0) (bt s 1) = true then 2 else if 0 < s.size ∧ oneB (bt s 0) = true then 1 else 0
/-- The word, by bytes. -/
theorem wordN_eq (s : ByteArray) (a : Nat) (h : a < s.size) : a + wordN (tailS s a) = if letB (bt s a) then runE wB s s.size a else a := by
  have hz : (tailS s a).size = s.size - a := tail_size
  obtain ⟨h1, h2, h3, h4⟩ := low_spec okB_high' (tailS s a) (tailS s a).size 0 (by omega) (by omega)
  have hb0 : bt (tailS s a) 0 = bt s a := by rw [tail_bt (by omega)]; rfl
  have hbi : ∀ i, i < s.size - a → bt (tailS s a) i = bt s (a + i) := fun i hi => tail_bt (by omega)
  unfold wordN
  obtain ⟨e, he⟩ : ∃ e, stopF okB (tailS s a) (tailS s a).size 0 = e := ⟨_, rfl⟩
  rw [he] at h1 h2 h3 h4 ⊢
  by_cases hl : letB (bt s a) = true
  · rw [if_pos hl]
    refine first_one (q := fun i => wB (bt s i) = true) (n := s.size) (pos := a) ⟨by omega, by omega, fun i g1 g2 => ?_, fun g => ?_⟩ (runE_spec wB s s.size a (by omega) (by omega))
    · have := h3 (i - a) (by omega) (by omega)
      rw [hbi _ (by omega), show a + (i - a) = i by omega] at this
      by_cases e0 : i - a = 0
      · rw [e0, ok_first] at this; exact wB_let this
      · rw [ok_later (by omega)] at this; exact this
    · have h5 := h4 (by omega)
      rw [hbi _ (by omega)] at h5
      by_cases e0 : e = 0
      · subst e0
        rw [ok_first, Nat.add_zero] at h5
        rw [hl] at h5; cases h5
      · rw [ok_later (by omega)] at h5
        simp [h5]
  · rw [if_neg hl]
    by_cases e0 : e = 0
    · rw [e0]; rfl
    · have := h3 0 (Nat.le_refl _) (by omega)
      rw [ok_first, hb0] at this
      exact absurd this hl
theorem digN_eq (s : ByteArray) (a : Nat) (h : a < s.size) : a + digN (tailS s a) = runE (fun b => digB b) s s.size a := by
  have hz : (tailS s a).size = s.size - a := tail_size
  obtain ⟨h1, h2, h3, h4⟩ := low_spec dgB_high (tailS s a) (tailS s a).size 0 (by omega) (by omega)
  have hbi : ∀ i, i < s.size - a → bt (tailS s a) i = bt s (a + i) := fun i hi => tail_bt (by omega)
  unfold digN
  obtain ⟨e, he⟩ : ∃ e, stopF dgB (tailS s a) (tailS s a).size 0 = e := ⟨_, rfl⟩
  rw [he] at h1 h2 h3 h4 ⊢
  refine first_one (q := fun i => digB (bt s i) = true) (n := s.size) (pos := a) ⟨by omega, by omega, fun i g1 g2 => ?_, fun g => ?_⟩ (runE_spec (fun b => digB b) s s.size a (by omega) (by omega))
  · have := h3 (i - a) (by omega) (by omega)
    rw [hbi _ (by omega), show a + (i - a) = i by omega] at this
    exact this
  · have h5 := h4 (by omega)
    rw [hbi _ (by omega)] at h5
    show ¬ digB (bt s (a + e)) = true
    rw [show digB (bt s (a + e)) = false from h5]
    decide
/-- Where the remark that begins at a place ends: at the first line's end, or behind all. -/
theorem lineN_eq (s : ByteArray) (a : Nat) (h : a < s.size) : a + stopF linB (tailS s a) (tailS s a).size 0 = runE (fun b => !decide (b = 10)) s s.size a := by
  have hz : (tailS s a).size = s.size - a := tail_size
  obtain ⟨h1, h2, h3, h4⟩ := line_spec (tailS s a) (tailS s a).size 0 (by omega) (by omega)
  have hbi : ∀ i, i < s.size - a → bt (tailS s a) i = bt s (a + i) := fun i hi => tail_bt (by omega)
  obtain ⟨e, he⟩ : ∃ e, stopF linB (tailS s a) (tailS s a).size 0 = e := ⟨_, rfl⟩
  rw [he] at h1 h2 h3 h4 ⊢
  refine first_one (q := fun i => (!decide (bt s i = 10)) = true) (n := s.size) (pos := a) ⟨by omega, by omega, fun i g1 g2 => ?_, fun g => ?_⟩ (runE_spec (fun b => !decide (b = 10)) s s.size a (by omega) (by omega))
  · have := h3 (i - a) (by omega) (by omega)
    rw [hbi _ (by omega), show a + (i - a) = i by omega] at this
    simp [this]
  · have h5 := h4 (by omega)
    rw [hbi _ (by omega)] at h5
    simp [h5]

/-- The runes from one place on come to another one. -/
inductive Hits (s : ByteArray) : Nat → Nat → Prop
  | here (a : Nat) : Hits s a a
  | on {a b : Nat} (h : a < s.size) (hh : Hits s (a + (Utf8.decode s a).2) b) : Hits s a b
theorem Hits.le {s : ByteArray} {a b : Nat} (h : Hits s a b) : a ≤ b := by
  induction h with
  | here => exact Nat.le_refl _
  | on h _ ih => omega
theorem Hits.next {s : ByteArray} {a b : Nat} (h : Hits s a b) (hlt : a < b) : Hits s (a + (Utf8.decode s a).2) b := by
  cases h with
  | here => omega
  | on _ hh => exact hh
/-- .. where the other one is the end, or an Ascii byte. -/
theorem hits_low (s : ByteArray) : ∀ d a b, b ≤ a + d → a ≤ b → b ≤ s.size → (b < s.size → bt s b < 128) → Hits s a b
  | 0, a, b, h, h1, _, _ => by rw [show b = a by omega]; exact .here a
  | d + 1, a, b, h, h1, h2, h3 => by
    by_cases e : a = b
    · subst e; exact .here _
    · obtain ⟨w1, w2⟩ := width_in (s := s) (pos := a) (by omega)
      refine .on (by omega) (hits_low s d _ b (by omega) ?_ h2 h3)
      refine Decidable.byContradiction fun hn => ?_
      have := (high_byte (s := s) (pos := a) (k := b - a) (by omega) (by omega) (by omega))
      rw [show a + (b - a) = b by omega] at this
      have := h3 this.2
      omega
/-- .. where all between them are Ascii bytes. -/
theorem hits_all (s : ByteArray) : ∀ d a b, b = a + d → b ≤ s.size → (∀ i, a ≤ i → i < b → bt s i < 128) → Hits s a b
  | 0, a, b, h, _, _ => by subst h; exact .here _
  | d + 1, a, b, h, h2, h3 => by
    refine .on (by omega) ?_
    rw [decode_low (by omega) (h3 a (Nat.le_refl _) (by omega))]
    exact hits_all s d (a + 1) b (by omega) h2 (fun i g1 g2 => h3 i (by omega) g2)
end Go.Proofs.YtmnigdphikoljaaGreatDoor.lx
namespace Go.Proofs.YtmnigdphikoljaaGreatDoor.lx
open Go.ChangeShapes Go.WideShapes Go.ChangeAt Go.RowKit Go.Deep

/-- A token. -/
structure Tok where
  kind : Nat
  num : Int
  pos : Nat
  text : ByteArray
/-- The token that a text begins with: its kind, number, bytes; or why there is none; nm: what the digits are worth, and whether they are worth anything. -/
def firstP (nm : List UInt8 → Int × Bool) (s : ByteArray) : Except Nat (Nat × Int × Nat) :=
  if 16 < wordN s then .error 6 else if 0 < wordN s then .ok (1, 0, wordN s)
  else if 0 < digN s then (if (nm (s.extract 0 (digN s)).data.toList).2 = true then .ok (2, (nm (s.extract 0 (digN s)).data.toList).1, digN s) else .error 10)
  else if 0 < signN s then .ok (3, 0, signN s) else .error 13
def blankB (b : Nat) : Bool := b == 32 || b == 10
def lineE (s : ByteArray) (a : Nat) : Nat := runE (fun b => !decide (b = 10)) s s.size a
/-- What is told of a text: the tokens, a place, an error's number. -/
abbrev Res := List Tok × Nat × Nat
/-- From a place on, with these tokens met, this is told. -/
inductive Sc (nm : List UInt8 → Int × Bool) (s : ByteArray) : Nat → List Tok → Res → Prop
  | done {a : Nat} {l : List Tok} (h : s.size ≤ a) : Sc nm s a l (l, 0, 0)
  | blank {a : Nat} {l : List Tok} {r : Res} (h : a < s.size) (hb : blankB (bt s a) = true) (hh : Sc nm s (a + 1) l r) : Sc nm s a l r
  | remark {a : Nat} {l : List Tok} {r : Res} (h : a < s.size) (hb : bt s a = 35) (hh : Sc nm s (lineE s a) l r) : Sc nm s a l r
  | many {a : Nat} {l : List Tok} (h : a < s.size) (hb : blankB (bt s a) = false) (hr : bt s a ≠ 35) (hl : l.length = 6000) : Sc nm s a l ([], a, 11)
  | wrong {a : Nat} {l : List Tok} {why : Nat} (h : a < s.size) (hb : blankB (bt s a) = false) (hr : bt s a ≠ 35) (hl : l.length ≠ 6000) (hf : firstP nm (tailS s a) = .error why) : Sc nm s a l ([], a, why)
  | token {a : Nat} {l : List Tok} {k : Nat} {n : Int} {m : Nat} {r : Res} (h : a < s.size) (hb : blankB (bt s a) = false) (hr : bt s a ≠ 35) (hl : l.length ≠ 6000) (hf : firstP nm (tailS s a) = .ok (k, n, m)) (hh : Sc nm s (a + m) (l ++ [⟨k, n, a, s.extract a (a + m)⟩]) r) : Sc nm s a l r
theorem not_blank35 {b : Nat} (h : blankB b = true) : b ≠ 35 := fun e => by subst e; revert h; decide
/-- One thing is told. -/
theorem Sc.one {nm : List UInt8 → Int × Bool} {s : ByteArray} {a : Nat} {l : List Tok} {r r' : Res} (h : Sc nm s a l r) : Sc nm s a l r' → r = r' := by
  induction h with
  | done h1 => intro k; cases k with
    | done => rfl
    | blank h => omega
    | remark h => omega
    | many h => omega
    | wrong h => omega
    | token h => omega
  | blank h1 hb _ ih => intro k; cases k with
    | done => omega
    | blank _ _ hh => exact ih hh
    | remark _ h => exact absurd h (not_blank35 hb)
    | many _ h => rw [hb] at h; cases h
    | wrong _ h => rw [hb] at h; cases h
    | token _ h => rw [hb] at h; cases h
  | remark h1 hb _ ih => intro k; cases k with
    | done => omega
    | blank _ h => exact absurd hb (not_blank35 h)
    | remark _ _ hh => exact ih hh
    | many _ _ h => exact absurd hb h
    | wrong _ _ h => exact absurd hb h
    | token _ _ h => exact absurd hb h
  | many h1 hb hr hl => intro k; cases k with
    | done => omega
    | blank _ h => rw [hb] at h; cases h
    | remark _ h => exact absurd h hr
    | many => rfl
    | wrong _ _ _ h => exact absurd hl h
    | token _ _ _ h => exact absurd hl h
  | wrong h1 hb hr hl hf => intro k; cases k with
    | done => omega
    | blank _ h => rw [hb] at h; cases h
    | remark _ h => exact absurd h hr
    | many _ _ _ h => exact absurd h hl
    | wrong _ _ _ _ h => rw [hf] at h; cases h; rfl
    | token _ _ _ _ h => rw [hf] at h; cases h
  | token h1 hb hr hl hf _ ih => intro k; cases k with
    | done => omega
    | blank _ h => rw [hb] at h; cases h
    | remark _ h => exact absurd h hr
    | many _ _ _ h => exact absurd h hl
    | wrong _ _ _ _ h => rw [hf] at h; cases h
    | token _ _ _ _ h hh => rw [hf] at h; cases h; exact ih hh
theorem wB_low {b : Nat} (h : wB b = true) : b < 128 := by
  rcases Nat.lt_or_ge b 128 with h1 | h1
  · exact h1
  · unfold wB at h
    rw [letB_high h1, digB_high h1, decide_eq_false (show ¬ b = 95 by omega)] at h
    cases h
theorem twoB_low {a b : Nat} (h : twoB a b = true) : a < 128 ∧ b < 128 := by
  unfold twoB at h
  simp only [Bool.or_eq_true, Bool.and_eq_true, beq_iff_eq] at h
  omega
theorem oneB_low {a : Nat} (h : oneB a = true) : a < 128 := by
  unfold oneB at h
  simp only [Bool.or_eq_true, beq_iff_eq] at h
  omega
/-- A token has a byte or more, lies in the text, and has bytes of Ascii alone. -/
theorem first_ok {nm : List UInt8 → Int × Bool} {s : ByteArray} {a k m : Nat} {n : Int} (h : a < s.size) (hf : firstP nm (tailS s a) = .ok (k, n, m)) : 0 < m ∧ a + m ≤ s.size ∧ ∀ i, a ≤ i → i < a + m → bt s i < 128 := by
  have hw := wordN_eq s a h
  have hd := digN_eq s a h
  have hz : (tailS s a).size = s.size - a := tail_size
  unfold firstP at hf
  split at hf
  · cases hf
  · split at hf
    · rename_i h1 h2
      injection hf with hf
      injection hf with _ hf
      injection hf with _ hf
      subst hf
      by_cases hl : letB (bt s a) = true
      · rw [if_pos hl] at hw
        obtain ⟨_, g2, g3, _⟩ := runE_spec wB s s.size a (by omega) (by omega)
        rw [← hw] at g2 g3
        exact ⟨h2, g2, fun i e1 e2 => wB_low (g3 i e1 e2)⟩
      · rw [if_neg hl] at hw
        omega
    · split at hf
      · rename_i h1 h2 h3
        split at hf
        · injection hf with hf
          injection hf with _ hf
          injection hf with _ hf
          subst hf
          obtain ⟨_, g2, g3, _⟩ := runE_spec (fun b => digB b) s s.size a (by omega) (by omega)
          rw [← hd] at g2 g3
          refine ⟨h3, g2, fun i e1 e2 => ?_⟩
          rcases Nat.lt_or_ge (bt s i) 128 with h5 | h5
          · exact h5
          · have := g3 i e1 e2
            rw [show digB (bt s i) = false from digB_high h5] at this
            cases this
        · cases hf
      · split at hf
        · rename_i h1 h2 h3 h4
          injection hf with hf
          injection hf with _ hf
          injection hf with _ hf
          subst hf
          have hb0 : bt (tailS s a) 0 = bt s a := by rw [tail_bt (by omega)]; rfl
          unfold signN at h4 ⊢
          by_cases c2 : 1 < (tailS s a).size ∧ twoB (bt (tailS s a) 0) (bt (tailS s a) 1) = true
          · rw [if_pos c2]
            obtain ⟨l0, l1⟩ := twoB_low c2.2
            have hb1 : bt (tailS s a) 1 = bt s (a + 1) := tail_bt (by omega)
            rw [hb0] at l0
            rw [hb1] at l1
            refine ⟨by omega, by omega, fun i e1 e2 => ?_⟩
            obtain rfl | rfl : i = a ∨ i = a + 1 := by omega
            · exact l0
            · exact l1
          · rw [if_neg c2] at h4 ⊢
            by_cases c1 : 0 < (tailS s a).size ∧ oneB (bt (tailS s a) 0) = true
            · rw [if_pos c1]
              have l0 := oneB_low c1.2
              rw [hb0] at l0
              refine ⟨by omega, by omega, fun i e1 e2 => ?_⟩
              obtain rfl : i = a := by omega
              exact l0
            · rw [if_neg c1] at h4
              omega
        · cases hf
/-- The runes come to the end of a token, of a remark. -/
theorem token_hits {nm : List UInt8 → Int × Bool} {s : ByteArray} {a k m : Nat} {n : Int} (h : a < s.size) (hf : firstP nm (tailS s a) = .ok (k, n, m)) : Hits s a (a + m) := by
  obtain ⟨_, h2, h3⟩ := first_ok h hf
  exact hits_all s m a (a + m) rfl h2 h3
theorem remark_hits {s : ByteArray} {a : Nat} (h : a < s.size) : Hits s a (lineE s a) ∧ lineE s a ≤ s.size := by
  obtain ⟨g1, g2, g3, g4⟩ := runE_spec (fun b => !decide (b = 10)) s s.size a (by omega) (by omega)
  unfold lineE
  refine ⟨hits_low s s.size a _ (by omega) g1 g2 (fun hlt => ?_), g2⟩
  have := g4 hlt
  simp at this
  omega
end Go.Proofs.YtmnigdphikoljaaGreatDoor.lx
namespace Go.Proofs.YtmnigdphikoljaaGreatDoor.et
open Go.ChangeShapes Go.WideShapes Go.ChangeAt Go.RowKit Go.Deep

/-- What is still to be read; where it could not go on, and why. -/
structure St where
  ts : List lx.Tok
  pl : Int
  why : Int
abbrev Rd := List (Int × Int) × St
def St.fail (st : St) (p y : Int) : St := if st.why = 0 then ⟨[], p, y⟩ else st
theorem St.fail_len (st : St) (p y : Int) : (st.fail p y).ts.length ≤ st.ts.length := by
  unfold St.fail
  split
  · exact Nat.zero_le _
  · exact Nat.le_refl _
/-- The token that stands for none, at the text's end. -/
def noTok (en : Nat) : lx.Tok := ⟨0, 0, en, ⟨#[]⟩⟩
def takeF (en : Nat) (st : St) : lx.Tok × St := match st.ts with
  | [] => (noTok en, st.fail en 3)
  | t :: r => (t, ⟨r, st.pl, st.why⟩)
def strB (l : List UInt8) : ByteArray := ⟨l.toArray⟩
def sgB (t : lx.Tok) (s : ByteArray) : Bool := decide (t.kind = 3) && (t.text.toList == s.toList)
def folF (s : ByteArray) (st : St) : Bool × St := match st.ts with
  | [] => (false, st)
  | t :: r => if sgB t s then (true, ⟨r, st.pl, st.why⟩) else (false, st)
def sgF (en : Nat) (s : ByteArray) (st : St) : St := if sgB (takeF en st).1 s then (takeF en st).2 else (takeF en st).2.fail (takeF en st).1.pos 3
def numF (en : Nat) (st : St) : lx.Tok × St := ((takeF en st).1, if (takeF en st).1.kind = 2 then (takeF en st).2 else (takeF en st).2.fail (takeF en st).1.pos 3)
def nmF (N : Nm) (en : Nat) (op : Int) (st : St) : Nat × St :=
  let t := (takeF en st).1
  let st2 := if t.kind = 1 then (takeF en st).2 else (takeF en st).2.fail t.pos 3
  let o := findF t.text 0 ((nmOf N op).getD [])
  (o.getD 0, if o.isSome then st2 else st2.fail t.pos 8)
def namF (N : Nm) (en : Nat) (op : Int) (st : St) : Rd :=
  let r := nmF N en op (sgF en ⟨#[40]⟩ st)
  ([(op, (r.1 : Int))], sgF en ⟨#[41]⟩ r.2)
def locF (N : Nm) (en : Nat) (st : St) : Rd :=
  let r := nmF N en 7 (sgF en ⟨#[40]⟩ st)
  let q := numF en (sgF en ⟨#[44]⟩ r.2)
  ([(7, (r.1 : Int) * 16 + q.1.num)], sgF en ⟨#[41]⟩ (if 16 ≤ q.1.num then q.2.fail q.1.pos 10 else q.2))
def wordF (N : Nm) (en : Nat) (ex : St → Rd) (t : lx.Tok) (st : St) : Rd :=
  if t.text.toList == (⟨#[115, 101, 108, 102]⟩ : ByteArray).toList then ([(5, 0)], st)
  else if t.text.toList == (⟨#[108, 101, 110]⟩ : ByteArray).toList then namF N en 6 st
  else if t.text.toList == (⟨#[110, 111, 110, 101]⟩ : ByteArray).toList then namF N en 8 st
  else if t.text.toList == (⟨#[97, 116]⟩ : ByteArray).toList then locF N en st
  else match findF t.text 0 N.locals with
  | some k => ([(4, (k : Int))], st)
  | none => match findF t.text 0 N.vars with
    | none => ([], st.fail t.pos 8)
    | some k => if (folF ⟨#[91]⟩ st).1 then ((ex (folF ⟨#[91]⟩ st).2).1 ++ [(3, (k : Int))], sgF en ⟨#[93]⟩ (ex (folF ⟨#[91]⟩ st).2).2) else ([(2, (k : Int))], (folF ⟨#[91]⟩ st).2)
def sinF (N : Nm) (en : Nat) (ex : St → Rd) (st : St) : Rd :=
  let t := (takeF en st).1
  let st1 := (takeF en st).2
  if t.kind = 2 then ([(1, t.num)], st1) else if t.kind = 1 then wordF N en ex t st1
  else if sgB t ⟨#[40]⟩ then ((ex st1).1, sgF en ⟨#[41]⟩ (ex st1).2) else ([], st1.fail t.pos 3)
def tigB (N : Nm) (en : Nat) (self ex : St → Rd) (st : St) : Rd :=
  if (folF ⟨#[33]⟩ st).1 then ((self (folF ⟨#[33]⟩ st).2).1 ++ [(9, 0)], (self (folF ⟨#[33]⟩ st).2).2)
  else
    let st1 := (folF ⟨#[33]⟩ st).2
    if (folF ⟨#[45]⟩ st1).1 then
      let st2 := (folF ⟨#[45]⟩ st1).2
      if st2.ts.head?.any (fun t => decide (t.kind = 2)) then ([(1, -(numF en st2).1.num)], (numF en st2).2)
      else ((self st2).1 ++ [(10, 0)], (self st2).2)
    else sinF N en ex (folF ⟨#[45]⟩ st1).2
/-- The operations upon two parts: how strongly they bind, their signs. -/
def pairL : List (Int × Nat × ByteArray) := [(19, 1, ⟨#[124, 124]⟩), (18, 2, ⟨#[38, 38]⟩), (14, 3, ⟨#[61, 61]⟩), (15, 3, ⟨#[33, 61]⟩), (16, 3, ⟨#[60]⟩), (17, 3, ⟨#[60, 61]⟩), (11, 4, ⟨#[43]⟩), (12, 4, ⟨#[45]⟩), (13, 5, ⟨#[42]⟩)]
/-- The operation of a strength that a sign tells. -/
def opS (k : Nat) (s : ByteArray) : Option Int := (pairL.find? fun p => decide (p.2.1 = k) && (p.2.2.toList == s.toList)).map (·.1)
/-- A row of one strength, from behind what was read: g is no less than the tokens left. -/
def rowL (k : Nat) (nx : St → Rd) : Nat → List (Int × Int) → St → Rd
  | 0, l, st => (l, st)
  | g + 1, l, st => match st.ts with
    | [] => (l, st)
    | t :: r => if t.kind = 3 then match opS k t.text with
        | none => (l, st)
        | some op => if k = 3 then (l ++ (nx ⟨r, st.pl, st.why⟩).1 ++ [(op, 0)], (nx ⟨r, st.pl, st.why⟩).2) else rowL k nx g (l ++ (nx ⟨r, st.pl, st.why⟩).1 ++ [(op, 0)]) (nx ⟨r, st.pl, st.why⟩).2
      else (l, st)
def rowF (k : Nat) (nx : St → Rd) (st : St) : Rd := rowL k nx (nx st).2.ts.length (nx st).1 (nx st).2
/-- What each level reads, from what the tightest one reads. -/
def levF (ti : St → Rd) : Nat → St → Rd
  | 0 => ti
  | n + 1 => rowF (5 - n) (levF ti n)
/-- The tightest level: f is more than the tokens left. -/
def tigF (N : Nm) (en : Nat) : Nat → St → Rd
  | 0, st => ([], st)
  | f + 1, st => tigB N en (tigF N en f) (levF (tigF N en f) 5) st

/-- As many nodes as tokens that are gone, or fewer. -/
def Few (st : St) (r : Rd) : Prop := r.1.length + r.2.ts.length ≤ st.ts.length
theorem take_len (en : Nat) (st : St) : (takeF en st).2.ts.length ≤ st.ts.length ∧ (st.ts ≠ [] → (takeF en st).2.ts.length + 1 = st.ts.length) := by
  unfold takeF
  split
  · rename_i h
    exact ⟨St.fail_len _ _ _, fun hn => absurd h hn⟩
  · rename_i t r h
    simp [h]
theorem fol_len (s : ByteArray) (st : St) : (folF s st).2.ts.length ≤ st.ts.length ∧ ((folF s st).1 = true → (folF s st).2.ts.length + 1 = st.ts.length) := by
  unfold folF
  split
  · simp
  · rename_i t r h
    split <;> simp [h]
theorem sg_len (en : Nat) (s : ByteArray) (st : St) : (sgF en s st).ts.length ≤ st.ts.length := by
  have h := (take_len en st).1
  unfold sgF
  split
  · exact h
  · exact Nat.le_trans (St.fail_len _ _ _) h
theorem num_len (en : Nat) (st : St) : (numF en st).2.ts.length ≤ st.ts.length := by
  have h := (take_len en st).1
  unfold numF
  dsimp only
  split
  · exact h
  · exact Nat.le_trans (St.fail_len _ _ _) h
theorem nm_len (N : Nm) (en : Nat) (op : Int) (st : St) : (nmF N en op st).2.ts.length ≤ st.ts.length := by
  have h := (take_len en st).1
  have h2 : (if (takeF en st).1.kind = 1 then (takeF en st).2 else (takeF en st).2.fail (takeF en st).1.pos 3).ts.length ≤ st.ts.length := by
    split
    · exact h
    · exact Nat.le_trans (St.fail_len _ _ _) h
  unfold nmF
  dsimp only
  split
  · exact h2
  · exact Nat.le_trans (St.fail_len _ _ _) h2
theorem rowL_few {k : Nat} {nx : St → Rd} (hnx : ∀ st, Few st (nx st)) : ∀ g l st, (rowL k nx g l st).1.length + (rowL k nx g l st).2.ts.length ≤ l.length + st.ts.length
  | 0, l, st => Nat.le_refl _
  | g + 1, l, st => by
    unfold rowL
    split
    · exact Nat.le_refl _
    · rename_i t r h
      split
      · split
        · exact Nat.le_refl _
        · rename_i op _
          have h1 := hnx ⟨r, st.pl, st.why⟩
          unfold Few at h1
          dsimp only at h1
          split
          · simp only [List.length_append, List.length_cons, List.length_nil, h]
            omega
          · have h2 := rowL_few (k := k) hnx g (l ++ (nx ⟨r, st.pl, st.why⟩).1 ++ [(op, 0)]) (nx ⟨r, st.pl, st.why⟩).2
            simp only [List.length_append, List.length_cons, List.length_nil] at h2
            simp only [h, List.length_cons]
            omega
      · exact Nat.le_refl _
theorem rowF_few {k : Nat} {nx : St → Rd} (hnx : ∀ st, Few st (nx st)) (st : St) : Few st (rowF k nx st) := by
  have h1 := hnx st
  have h2 := rowL_few hnx (k := k) (nx st).2.ts.length (nx st).1 (nx st).2
  unfold Few rowF at *
  omega
theorem levF_few {ti : St → Rd} (h : ∀ st, Few st (ti st)) : ∀ n st, Few st (levF ti n st)
  | 0, st => h st
  | n + 1, st => rowF_few (levF_few h n) st
theorem nam_few (N : Nm) (en : Nat) (op : Int) (st : St) : (namF N en op st).2.ts.length ≤ st.ts.length ∧ (namF N en op st).1.length = 1 := by
  refine ⟨?_, rfl⟩
  unfold namF
  exact Nat.le_trans (sg_len _ _ _) (Nat.le_trans (nm_len _ _ _ _) (sg_len _ _ _))
theorem loc_few (N : Nm) (en : Nat) (st : St) : (locF N en st).2.ts.length ≤ st.ts.length ∧ (locF N en st).1.length = 1 := by
  refine ⟨?_, rfl⟩
  unfold locF
  refine Nat.le_trans (sg_len _ _ _) ?_
  have h : (numF en (sgF en ⟨#[44]⟩ (nmF N en 7 (sgF en ⟨#[40]⟩ st)).2)).2.ts.length ≤ st.ts.length := Nat.le_trans (num_len _ _) (Nat.le_trans (sg_len _ _ _) (Nat.le_trans (nm_len _ _ _ _) (sg_len _ _ _)))
  split
  · exact Nat.le_trans (St.fail_len _ _ _) h
  · exact h
theorem word_few {N : Nm} {en : Nat} {ex : St → Rd} (hx : ∀ st, Few st (ex st)) (t : lx.Tok) (st : St) : (wordF N en ex t st).1.length + (wordF N en ex t st).2.ts.length ≤ st.ts.length + 1 := by
  unfold wordF
  split
  · simp; omega
  · split
    · have := nam_few N en 6 st; omega
    · split
      · have := nam_few N en 8 st; omega
      · split
        · have := loc_few N en st; omega
        · split
          · simp; omega
          · split
            · have := st.fail_len t.pos 8; simp; omega
            · have h2 := fol_len ⟨#[91]⟩ st
              split
              · rename_i h
                have h5 := h2.2 h
                have h1 := hx (folF ⟨#[91]⟩ st).2
                have h3 := sg_len en ⟨#[93]⟩ (ex (folF ⟨#[91]⟩ st).2).2
                unfold Few at h1
                simp only [List.length_append, List.length_singleton]
                omega
              · simp; omega
theorem sin_few {N : Nm} {en : Nat} {ex : St → Rd} (hx : ∀ st, Few st (ex st)) (st : St) : Few st (sinF N en ex st) := by
  have h := take_len en st
  unfold Few
  by_cases h0 : st.ts = []
  · have e : takeF en st = (noTok en, st.fail en 3) := by unfold takeF; rw [h0]
    have e2 : sinF N en ex st = ([], (st.fail en 3).fail en 3) := by unfold sinF; rw [e]; rfl
    rw [e2]
    have h1 := (st.fail en 3).fail_len en 3
    have h2 := st.fail_len en 3
    simp
    omega
  · have h1 := h.2 h0
    unfold sinF
    dsimp only
    split
    · simp; omega
    · split
      · have := word_few (N := N) (en := en) hx (takeF en st).1 (takeF en st).2
        omega
      · split
        · have h3 := hx (takeF en st).2
          have h4 := sg_len en ⟨#[41]⟩ (ex (takeF en st).2).2
          unfold Few at h3
          dsimp only
          omega
        · have := (takeF en st).2.fail_len (takeF en st).1.pos 3
          simp; omega
theorem tig_few (N : Nm) (en : Nat) : ∀ f st, Few st (tigF N en f st)
  | 0, st => by unfold Few tigF; simp
  | f + 1, st => by
    have hs := tig_few N en f
    have hx := levF_few hs 5
    have h1 := fol_len ⟨#[33]⟩ st
    unfold tigF tigB
    split
    · rename_i h
      have := hs (folF ⟨#[33]⟩ st).2
      have h3 := h1.2 h
      unfold Few at *
      simp only [List.length_append, List.length_singleton]
      omega
    · have h2 := fol_len ⟨#[45]⟩ (folF ⟨#[33]⟩ st).2
      dsimp only
      split
      · rename_i h
        have h3 := h2.2 h
        split
        · have := num_len en (folF ⟨#[45]⟩ (folF ⟨#[33]⟩ st).2).2
          unfold Few
          simp only [List.length_singleton]
          omega
        · have := hs (folF ⟨#[45]⟩ (folF ⟨#[33]⟩ st).2).2
          unfold Few at *
          simp only [List.length_append, List.length_singleton]
          omega
      · have := sin_few (N := N) (en := en) hx (folF ⟨#[45]⟩ (folF ⟨#[33]⟩ st).2).2
        unfold Few at *
        omega
end Go.Proofs.YtmnigdphikoljaaGreatDoor.et
