/- Truth on words that go on for ever, plain: places, untils met going on, truth told from the last place back. Nothing here speaks of the program. -/
import Derived.Test.YtophajljjnjcdaaNnfSem
namespace Go.Proofs.Ytophajljjnjcdaa.wd
open lt nf

/-- The place that place g is, of a word that is written with n places, whose loop begins at s. -/
def plc (s n g : Nat) : Nat := if g < n then g else s + (g - s) % (n - s)
theorem plc_id {s n g : Nat} (h : g < n) : plc s n g = g := if_pos h
theorem plc_lt {s n : Nat} (h : s < n) (g : Nat) : plc s n g < n := by
  unfold plc
  split
  · assumption
  · have := Nat.mod_lt (g - s) (show 0 < n - s by omega)
    omega
theorem mod_succ {d L : Nat} (hL : 0 < L) : (d + 1) % L = if d % L + 1 < L then d % L + 1 else 0 := by
  have h1 := Nat.div_add_mod d L
  have h2 := Nat.mod_lt d hL
  have e : d + 1 = L * (d / L) + (d % L + 1) := by omega
  rw [e, Nat.mul_add_mod]
  have e2 : (L * (d / L) + (d % L + 1)) = d + 1 := by omega
  by_cases h : d % L + 1 < L
  · rw [if_pos h, Nat.mod_eq_of_lt h]
  · rw [if_neg h]
    have e3 : d % L + 1 = L := by omega
    rw [e3, Nat.mod_self]
theorem plc_nxt {s n : Nat} (h : s < n) (g : Nat) : nxt s n (plc s n g) = plc s n (g + 1) := by
  by_cases h1 : g < n
  · rw [plc_id h1]
    unfold nxt
    by_cases h2 : g + 1 < n
    · rw [if_pos h2, plc_id h2]
    · rw [if_neg h2]
      unfold plc
      rw [if_neg h2, show g + 1 - s = n - s by omega, Nat.mod_self]
      rfl
  · unfold plc
    rw [if_neg h1, if_neg (by omega), show g + 1 - s = (g - s) + 1 by omega, mod_succ (show 0 < n - s by omega)]
    have h2 := Nat.mod_lt (g - s) (show 0 < n - s by omega)
    unfold nxt
    by_cases h3 : (g - s) % (n - s) + 1 < n - s
    · rw [if_pos h3, if_pos (by omega)]
      omega
    · rw [if_neg h3, if_neg (by omega)]
      rfl
theorem plc_per {s n g : Nat} (h : s < n) (hg : s ≤ g) : plc s n (g + (n - s)) = plc s n g := by
  unfold plc
  rw [if_neg (by omega), show g + (n - s) - s = (g - s) + (n - s) by omega, Nat.add_mod_right]
  by_cases h1 : g < n
  · rw [if_pos h1, Nat.mod_eq_of_lt (by omega)]
    omega
  · rw [if_neg h1]

def Unt (A B : Nat → Prop) (f g : Nat) : Prop := ∃ m, m < f ∧ B (g + m) ∧ ∀ j, j < m → A (g + j)
def UntW (A B : Nat → Prop) (g : Nat) : Prop := ∃ m, B (g + m) ∧ ∀ j, j < m → A (g + j)
def atP (s n : Nat) (a : List Bool) (g : Nat) : Prop := a.getD (plc s n g) false = true
theorem atP_per {s n : Nat} (h : s < n) (a : List Bool) {x : Nat} (hx : s ≤ x) : atP s n a (x + (n - s)) ↔ atP s n a x := by
  unfold atP
  rw [plc_per h hx]
theorem untA_iff {s n : Nat} (h : s < n) (a b : List Bool) : ∀ f g, untA a b s n f (plc s n g) = true ↔ Unt (atP s n a) (atP s n b) f g
  | 0, g => by
    unfold untA Unt
    exact ⟨fun h => (by cases h), fun ⟨m, h, _⟩ => absurd h (Nat.not_lt_zero _)⟩
  | f + 1, g => by
    unfold untA
    by_cases hb : b.getD (plc s n g) false = true
    · rw [if_pos hb]
      exact ⟨fun _ => ⟨0, by omega, hb, fun j hj => by omega⟩, fun _ => rfl⟩
    · rw [if_neg hb]
      by_cases ha : a.getD (plc s n g) false = true
      · rw [if_pos ha, plc_nxt h, untA_iff h a b f (g + 1)]
        constructor
        · rintro ⟨m, h1, h2, h3⟩
          refine ⟨m + 1, by omega, by rw [show g + (m + 1) = g + 1 + m by omega]; exact h2, fun j hj => ?_⟩
          rcases j with _ | j
          · exact ha
          · rw [show g + (j + 1) = g + 1 + j by omega]
            exact h3 j (by omega)
        · rintro ⟨m, h1, h2, h3⟩
          rcases m with _ | m
          · exact absurd h2 hb
          · refine ⟨m, by omega, by rw [show g + 1 + m = g + (m + 1) by omega]; exact h2, fun j hj => ?_⟩
            rw [show g + 1 + j = g + (j + 1) by omega]
            exact h3 (j + 1) (by omega)
      · rw [if_neg ha]
        refine ⟨fun h => (by cases h), ?_⟩
        rintro ⟨m, h1, h2, h3⟩
        rcases m with _ | m
        · exact absurd h2 hb
        · exact absurd (h3 0 (by omega)) ha
theorem unt_less {A B : Nat → Prop} {s L g : Nat} (hL : 0 < L) (pA : ∀ x, s ≤ x → (A (x + L) ↔ A x)) (pB : ∀ x, s ≤ x → (B (x + L) ↔ B x)) {f : Nat} (h1 : L ≤ f) (h2 : s + L ≤ g + f) :
    ∀ m, B (g + m) → (∀ j, j < m → A (g + j)) → Unt A B f g := by
  intro m
  induction m using Nat.strongRecOn with
  | _ m ih =>
    intro hb ha
    by_cases hm : m < f
    · exact ⟨m, hm, hb, ha⟩
    · refine ih (m - L) (by omega) ?_ (fun j hj => ha j (by omega))
      have := pB (g + (m - L)) (by omega)
      rw [show g + (m - L) + L = g + m by omega] at this
      exact this.1 hb
theorem untA_full {s n : Nat} (h : s < n) (a b : List Bool) {f g : Nat} (h1 : n - s ≤ f) (h2 : n ≤ g + f) : untA a b s n f (plc s n g) = true ↔ UntW (atP s n a) (atP s n b) g := by
  rw [untA_iff h]
  constructor
  · rintro ⟨m, _, h3, h4⟩
    exact ⟨m, h3, h4⟩
  · rintro ⟨m, h3, h4⟩
    exact unt_less (show 0 < n - s by omega) (fun x hx => atP_per h a hx) (fun x hx => atP_per h b hx) h1 (by omega) m h3 h4
theorem untA_fuel {s n : Nat} (h : s < n) (a b : List Bool) {f f2 k : Nat} (hk : k < n) (h1 : n - s ≤ f) (h2 : n ≤ k + f) (h3 : n - s ≤ f2) (h4 : n ≤ k + f2) : untA a b s n f k = untA a b s n f2 k := by
  have e := (untA_full h a b h1 h2).trans (untA_full h a b h3 h4).symm
  rw [plc_id hk] at e
  exact Bool.eq_iff_iff.2 e

/-- What is told of a place, d places ahead of the end, going back from what is told there. -/
def chn (g : Nat → Bool → Bool) (x : Bool) : Nat → Nat → Bool
  | 0, _ => x
  | d + 1, k => g k (chn g x d (k + 1))
theorem chn_congr {g g' : Nat → Bool → Bool} {n : Nat} (h : ∀ k, k < n → ∀ x, g k x = g' k x) (x : Bool) : ∀ d k, k + d = n → chn g x d k = chn g' x d k
  | 0, _, _ => rfl
  | d + 1, k, hk => by
    unfold chn
    rw [chn_congr h x d (k + 1) (by omega), h k (by omega)]
theorem chn_not {g g' : Nat → Bool → Bool} {n : Nat} (h : ∀ k, k < n → ∀ x, g' k (!x) = !(g k x)) (x : Bool) : ∀ d k, k + d = n → chn g' (!x) d k = !(chn g x d k)
  | 0, _, _ => rfl
  | d + 1, k, hk => by
    unfold chn
    rw [chn_not h x d (k + 1) (by omega), h k (by omega)]
theorem chn_unt {s n : Nat} (a b : List Bool) (f : Nat) : ∀ d k, k + d = n → chn (fun k x => b.getD k false || a.getD k false && x) (untA a b s n f s) d k = untA a b s n (f + d) (if k < n then k else s)
  | 0, k, hk => by
    rw [if_neg (by omega)]
    rfl
  | d + 1, k, hk => by
    rw [if_pos (by omega), chn, chn_unt a b f d (k + 1) (by omega), ← Nat.add_assoc, untA]
    have e : (if k + 1 < n then k + 1 else s) = nxt s n k := rfl
    rw [e]
    cases b.getD k false <;> cases a.getD k false <;> simp
/-- What is told of all places, the loop gone through twice. -/
def bkF (g : Nat → Bool → Bool) (e : Bool) (s n : Nat) : List Bool := (List.range n).map fun k => chn g (chn g e (n - s) s) (n - k) k
theorem bk_len (g : Nat → Bool → Bool) (e : Bool) (s n : Nat) : (bkF g e s n).length = n := by simp [bkF]
theorem bk_congr {g g' : Nat → Bool → Bool} {n s : Nat} (hs : s < n) (h : ∀ k, k < n → ∀ x, g k x = g' k x) (e : Bool) : bkF g e s n = bkF g' e s n := by
  unfold bkF
  refine List.map_congr_left (fun k hk => ?_)
  rw [chn_congr h _ _ _ (show s + (n - s) = n by omega), chn_congr h _ _ _ (by have := List.mem_range.1 hk; omega)]
theorem bk_not {g g' : Nat → Bool → Bool} {n s : Nat} (hs : s < n) (h : ∀ k, k < n → ∀ x, g' k (!x) = !(g k x)) (e : Bool) : bkF g' (!e) s n = flipF (bkF g e s n) := by
  refine range_flip (fun k hk => ?_)
  rw [chn_not h _ _ _ (show s + (n - s) = n by omega), chn_not h _ _ _ (by omega)]
theorem bk_unt {a b : List Bool} {s n : Nat} (hs : s < n) (ha : a.length = n) : bkF (fun k x => b.getD k false || a.getD k false && x) false s n = untF a b s := by
  unfold bkF untF
  rw [ha]
  refine List.map_congr_left (fun k hk => ?_)
  have hk := List.mem_range.1 hk
  have e1 := chn_unt (s := s) (n := n) a b 0 (n - s) s (by omega)
  have e0 : untA a b s n 0 s = false := rfl
  rw [e0, if_pos hs, Nat.zero_add] at e1
  rw [e1, chn_unt a b (n - s) (n - k) k (by omega), if_pos hk]
  exact untA_fuel hs a b hk (by omega) (by omega) (by omega) (by omega)
theorem yes_get {n k : Nat} (h : k < n) : (yesF n).getD k false = true := by simp [yesF, List.getD, h]
/-- One step back, of an until, a release, a finally, an always. -/
def stpF (op : Int) (a b : List Bool) (k : Nat) (x : Bool) : Bool :=
  if op = 9 then b.getD k false || a.getD k false && x else if op = 10 then b.getD k false && (a.getD k false || x) else if op = 11 then a.getD k false || x else a.getD k false && x
def endF (op : Int) : Bool := decide (op = 10 ∨ op = 12)
theorem bk_pl {op q : Int} {sets : List Int} {s : Nat} {a b : List Bool} (hop : op = 9 ∨ op = 10 ∨ op = 11 ∨ op = 12) (hs : s < sets.length) (ha : a.length = sets.length) (hb : op = 9 ∨ op = 10 → b.length = sets.length) :
    bkF (stpF op a b) (endF op) s sets.length = plF (op, q) sets s a b := by
  rcases hop with rfl | rfl | rfl | rfl
  · show _ = untF a b s
    rw [← bk_unt hs ha]
    rfl
  · have hb := hb (by decide)
    show _ = flipF (untF (flipF a) (flipF b) s)
    rw [← bk_unt hs (by rw [flip_len]; exact ha)]
    refine (bk_not hs (fun k hk x => ?_) false)
    show (b.getD k false && (a.getD k false || !x)) = !((flipF b).getD k false || (flipF a).getD k false && x)
    rw [flip_get (by omega), flip_get (by omega)]
    cases b.getD k false <;> cases a.getD k false <;> cases x <;> rfl
  · show _ = untF (yesF sets.length) a s
    rw [← bk_unt hs (by simp [yesF])]
    refine bk_congr hs (fun k hk x => ?_) false
    show (a.getD k false || x) = _
    rw [yes_get hk, Bool.true_and]
  · show _ = flipF (untF (yesF sets.length) (flipF a) s)
    rw [← bk_unt hs (by simp [yesF])]
    refine (bk_not hs (fun k hk x => ?_) false)
    show (a.getD k false && !x) = !((flipF a).getD k false || (yesF sets.length).getD k false && x)
    rw [flip_get (by omega), yes_get hk, Bool.true_and]
    cases a.getD k false <;> cases x <;> rfl

/-- How far the document's least goes on from a place: t turns done, and of the next one the places from k on. -/
def lfl (s n t k j : Nat) : Nat := if k ≤ j then n - j + t * (n - s) else if t = 0 then 0 else n - j + (t - 1) * (n - s)
def lsF (a b : List Bool) (s n t k : Nat) : List Bool := (List.range n).map fun j => untA a b s n (lfl s n t k j) j
theorem ls_len (a b : List Bool) (s n t k : Nat) : (lsF a b s n t k).length = n := by simp [lsF]
theorem ls_get {a b : List Bool} {s n t k j : Nat} (h : j < n) : (lsF a b s n t k).getD j false = untA a b s n (lfl s n t k j) j := by
  unfold lsF
  simp [List.getD, h]
theorem ls_step {a b : List Bool} {s n t p : Nat} (hs : s < n) (hp : p < n) : (b.getD p false || a.getD p false && (lsF a b s n t (p + 1)).getD (nxt s n p) false) = (lsF a b s n t p).getD p false := by
  rw [ls_get (nxt_lt hs), ls_get hp]
  have e : lfl s n t p p = lfl s n t (p + 1) (nxt s n p) + 1 := by
    unfold lfl nxt
    rw [if_pos (Nat.le_refl _)]
    by_cases h1 : p + 1 < n
    · rw [if_pos h1, if_pos (Nat.le_refl _)]
      omega
    · rw [if_neg h1, if_neg (by omega)]
      rcases t with _ | t
      · simp
        omega
      · rw [if_neg (by omega), Nat.add_sub_cancel, Nat.succ_mul]
        omega
  rw [e, untA]
  cases b.getD p false <;> cases a.getD p false <;> simp
theorem ls_other {a b : List Bool} {s n t p j : Nat} (hj : j < n) (h : j ≠ p) : (lsF a b s n t p).getD j false = (lsF a b s n t (p + 1)).getD j false := by
  rw [ls_get hj, ls_get hj]
  congr 1
  unfold lfl
  by_cases h1 : p ≤ j
  · rw [if_pos h1, if_pos (show p + 1 ≤ j by omega)]
  · rw [if_neg h1, if_neg (show ¬ p + 1 ≤ j by omega)]
theorem ls_turn (a b : List Bool) (s n t : Nat) : lsF a b s n t 0 = lsF a b s n (t + 1) n := by
  unfold lsF
  refine List.map_congr_left (fun j hj => ?_)
  have := List.mem_range.1 hj
  congr 1
  unfold lfl
  rw [if_pos (Nat.zero_le _), if_neg (by omega), if_neg (by omega)]
  rfl
theorem ls_zero (a b : List Bool) (s n : Nat) {j : Nat} : (lsF a b s n 0 n).getD j false = false := by
  by_cases h : j < n
  · rw [ls_get h]
    unfold lfl
    rw [if_neg (by omega), if_pos rfl]
    rfl
  · simp [lsF, List.getD, h]
theorem ls_unt {a b : List Bool} {s n : Nat} (hs : s < n) (ha : a.length = n) : lsF a b s n 3 n = untF a b s := by
  unfold lsF untF
  rw [ha]
  refine List.map_congr_left (fun j hj => ?_)
  have hj := List.mem_range.1 hj
  have e : lfl s n 3 n j = n - j + 2 * (n - s) := by
    unfold lfl
    rw [if_neg (by omega), if_neg (by decide)]
  rw [e]
  exact untA_fuel hs a b hj (by omega) (by omega) (by omega) (by omega)

/-- Is a tree satisfied at a place of what goes on for ever? -/
def tru : Tr → (Nat → Int) → Nat → Prop
  | .lf x, σ, g => x.1 = 1 ∨ x.1 = 3 ∧ bitF (σ g) x.2 = true
  | .un x t, σ, g => if x.1 = 4 then ¬ tru t σ g else if x.1 = 8 then tru t σ (g + 1) else if x.1 = 11 then UntW (fun _ => True) (tru t σ) g else ¬ UntW (fun _ => True) (fun k => ¬ tru t σ k) g
  | .bi x l r, σ, g => if x.1 = 5 then tru l σ g ∧ tru r σ g else if x.1 = 6 then tru l σ g ∨ tru r σ g else if x.1 = 7 then (tru l σ g → tru r σ g) else if x.1 = 9 then UntW (tru l σ) (tru r σ) g else ¬ UntW (fun k => ¬ tru l σ k) (fun k => ¬ tru r σ k) g
theorem unt_congr {A A' B B' : Nat → Prop} (hA : ∀ g, A g ↔ A' g) (hB : ∀ g, B g ↔ B' g) (g : Nat) : UntW A B g ↔ UntW A' B' g := by
  constructor
  · rintro ⟨m, h1, h2⟩
    exact ⟨m, (hB _).1 h1, fun j hj => (hA _).1 (h2 j hj)⟩
  · rintro ⟨m, h1, h2⟩
    exact ⟨m, (hB _).2 h1, fun j hj => (hA _).2 (h2 j hj)⟩
theorem unt_off {A B : Nat → Prop} (k g : Nat) : UntW (fun x => A (x + k)) (fun x => B (x + k)) g ↔ UntW A B (g + k) := by
  constructor
  · rintro ⟨m, h1, h2⟩
    exact ⟨m, by rw [show g + k + m = g + m + k by omega]; exact h1, fun j hj => by rw [show g + k + j = g + j + k by omega]; exact h2 j hj⟩
  · rintro ⟨m, h1, h2⟩
    exact ⟨m, by show B (g + m + k); rw [show g + m + k = g + k + m by omega]; exact h1, fun j hj => by show A (g + j + k); rw [show g + j + k = g + k + j by omega]; exact h2 j hj⟩
/-- What is satisfied from a place on. -/
theorem tru_off (σ : Nat → Int) (k : Nat) : ∀ (t : Tr) (g : Nat), tru t (fun x => σ (x + k)) g ↔ tru t σ (g + k)
  | .lf x, g => Iff.rfl
  | .un x t, g => by
    have ih := tru_off σ k t
    unfold tru
    by_cases h4 : x.1 = 4
    · rw [if_pos h4, if_pos h4, ih]
    · rw [if_neg h4, if_neg h4]
      by_cases h8 : x.1 = 8
      · rw [if_pos h8, if_pos h8, ih, show g + 1 + k = g + k + 1 by omega]
      · rw [if_neg h8, if_neg h8]
        by_cases h11 : x.1 = 11
        · rw [if_pos h11, if_pos h11, ← unt_off]
          exact unt_congr (fun _ => Iff.rfl) ih g
        · rw [if_neg h11, if_neg h11, ← unt_off]
          exact not_congr (unt_congr (fun _ => Iff.rfl) (fun x => not_congr (ih x)) g)
  | .bi x l r, g => by
    have ihl := tru_off σ k l
    have ihr := tru_off σ k r
    unfold tru
    rw [ihl, ihr]
    by_cases h5 : x.1 = 5
    · rw [if_pos h5, if_pos h5]
    · rw [if_neg h5, if_neg h5]
      by_cases h6 : x.1 = 6
      · rw [if_pos h6, if_pos h6]
      · rw [if_neg h6, if_neg h6]
        by_cases h7 : x.1 = 7
        · rw [if_pos h7, if_pos h7]
        · rw [if_neg h7, if_neg h7]
          by_cases h9 : x.1 = 9
          · rw [if_pos h9, if_pos h9, ← unt_off]
            exact unt_congr ihl ihr g
          · rw [if_neg h9, if_neg h9, ← unt_off]
            exact not_congr (unt_congr (fun x => not_congr (ihl x)) (fun x => not_congr (ihr x)) g)
theorem unt_sem {s n : Nat} {a b : List Bool} (hs : s < n) (ha : a.length = n) (g : Nat) : (untF a b s).getD (plc s n g) false = true ↔ UntW (atP s n a) (atP s n b) g := by
  have hl := plc_lt hs g
  have e : (untF a b s).getD (plc s n g) false = untA a b s n (n + 1) (plc s n g) := by
    unfold untF
    rw [ha]
    simp [List.getD, hl]
  rw [e]
  exact untA_full hs a b (by omega) (by omega)
theorem flip_at {s n : Nat} {a : List Bool} (hs : s < n) (ha : a.length = n) (g : Nat) : atP s n (flipF a) g ↔ ¬ atP s n a g := by
  unfold atP
  rw [flip_get (by rw [ha]; exact plc_lt hs g)]
  cases a.getD (plc s n g) false <;> simp
theorem one_at {sets : List Int} {s : Nat} {x : Int × Int} {a b : List Bool} (h : x.1 ≠ 9 ∧ x.1 ≠ 10 ∧ x.1 ≠ 11 ∧ x.1 ≠ 12) (hs : s < sets.length) (g : Nat) : (plF x sets s a b).getD (plc s sets.length g) false = oneF x sets s a b (plc s sets.length g) := by
  rw [pl_one h]
  simp [List.getD, plc_lt hs g]
/-- What is told of a lasso's places is what is so of the word that goes on for ever. -/
theorem sem_tru (sets : List Int) (s : Nat) (hs : s < sets.length) : ∀ t, Wf t → ∀ g, (semF sets s t).getD (plc s sets.length g) false = true ↔ tru t (fun k => sets.getD (plc s sets.length k) 0) g
  | .lf x, h, g => by
    have hx : x.1 = 1 ∨ x.1 = 2 ∨ x.1 = 3 := by rcases kT_cases x.1 with ⟨_, h2⟩ | ⟨h2, _⟩ | ⟨h2, _⟩ | ⟨h2, _⟩ <;> (have := h.1; omega)
    rw [semF, one_at (by omega) hs]
    unfold oneF tru
    rcases hx with e | e | e
    · rw [if_pos e]; simp [e]
    · rw [if_neg (by omega), if_neg (by omega), if_neg (by omega), if_neg (by omega), if_neg (by omega), if_neg (by omega), if_neg (by omega)]; simp [e]
    · rw [if_neg (by omega), if_pos e]; simp [e]
  | .un x t, h, g => by
    have ih := sem_tru sets s hs t h.2
    have hlen := sem_len sets s t h.2
    obtain ⟨_, _, _, k4⟩ := kT1 h.1
    have ihA : ∀ g, atP s sets.length (semF sets s t) g ↔ tru t (fun k => sets.getD (plc s sets.length k) 0) g := ih
    rw [semF]
    rcases k4 with e | e | e | e
    · rw [one_at (by omega) hs]
      unfold oneF tru
      rw [if_neg (by omega), if_neg (by omega), if_pos e, if_pos e, ← ih g]
      simp
    · rw [one_at (by omega) hs]
      unfold oneF tru
      rw [if_neg (by omega), if_neg (by omega), if_neg (by omega), if_pos e, if_neg (by omega), if_pos e, plc_nxt hs, ih (g + 1)]
    · have e2 : plF x sets s (semF sets s t) [] = untF (yesF sets.length) (semF sets s t) s := by unfold plF; rw [if_neg (by omega), if_neg (by omega), if_pos e]
      rw [e2, unt_sem hs (by simp [yesF])]
      unfold tru
      rw [if_neg (by omega), if_neg (by omega), if_pos e]
      exact unt_congr (fun g => ⟨fun _ => trivial, fun _ => yes_get (plc_lt hs g)⟩) ihA g
    · have e2 : plF x sets s (semF sets s t) [] = flipF (untF (yesF sets.length) (flipF (semF sets s t)) s) := by unfold plF; rw [if_neg (by omega), if_neg (by omega), if_neg (by omega), if_pos e]
      rw [e2]
      refine (flip_at hs (by rw [unt_len]; simp [yesF]) g).trans ?_
      unfold atP
      rw [unt_sem hs (by simp [yesF])]
      unfold tru
      rw [if_neg (by omega), if_neg (by omega), if_neg (by omega)]
      exact not_congr (unt_congr (fun g => ⟨fun _ => trivial, fun _ => yes_get (plc_lt hs g)⟩) (fun g => (flip_at hs hlen g).trans (not_congr (ihA g))) g)
  | .bi x l r, h, g => by
    have ihl := sem_tru sets s hs l h.2.1
    have ihr := sem_tru sets s hs r h.2.2
    have hll := sem_len sets s l h.2.1
    have hlr := sem_len sets s r h.2.2
    have ihA : ∀ g, atP s sets.length (semF sets s l) g ↔ tru l (fun k => sets.getD (plc s sets.length k) 0) g := ihl
    have ihB : ∀ g, atP s sets.length (semF sets s r) g ↔ tru r (fun k => sets.getD (plc s sets.length k) 0) g := ihr
    have k2 : x.1 = 5 ∨ x.1 = 6 ∨ x.1 = 7 ∨ x.1 = 9 ∨ x.1 = 10 := by rcases kT_cases x.1 with ⟨h2, _⟩ | ⟨h2, _⟩ | ⟨_, h2⟩ | ⟨h2, _⟩ <;> (have := h.1; omega)
    rw [semF]
    rcases k2 with e | e | e | e | e
    · rw [one_at (by omega) hs]
      unfold oneF tru
      rw [if_neg (by omega), if_neg (by omega), if_neg (by omega), if_neg (by omega), if_pos e, if_pos e, ← ihl g, ← ihr g]
      simp
    · rw [one_at (by omega) hs]
      unfold oneF tru
      rw [if_neg (by omega), if_neg (by omega), if_neg (by omega), if_neg (by omega), if_neg (by omega), if_pos e, if_neg (by omega), if_pos e, ← ihl g, ← ihr g]
      simp
    · rw [one_at (by omega) hs]
      unfold oneF tru
      rw [if_neg (by omega), if_neg (by omega), if_neg (by omega), if_neg (by omega), if_neg (by omega), if_neg (by omega), if_pos e, if_neg (by omega), if_neg (by omega), if_pos e, ← ihl g, ← ihr g]
      cases (semF sets s l).getD (plc s sets.length g) false <;> simp
    · have e2 : plF x sets s (semF sets s l) (semF sets s r) = untF (semF sets s l) (semF sets s r) s := by unfold plF; rw [if_pos e]
      rw [e2, unt_sem hs hll]
      unfold tru
      rw [if_neg (by omega), if_neg (by omega), if_neg (by omega), if_pos e]
      exact unt_congr ihA ihB g
    · have e2 : plF x sets s (semF sets s l) (semF sets s r) = flipF (untF (flipF (semF sets s l)) (flipF (semF sets s r)) s) := by unfold plF; rw [if_neg (by omega), if_pos e]
      rw [e2]
      refine (flip_at hs (by rw [unt_len, flip_len]; exact hll) g).trans ?_
      unfold atP
      rw [unt_sem hs (by rw [flip_len]; exact hll)]
      unfold tru
      rw [if_neg (by omega), if_neg (by omega), if_neg (by omega), if_neg (by omega)]
      exact not_congr (unt_congr (fun g => (flip_at hs hll g).trans (not_congr (ihA g))) (fun g => (flip_at hs hlr g).trans (not_congr (ihB g))) g)
end Go.Proofs.Ytophajljjnjcdaa.wd
