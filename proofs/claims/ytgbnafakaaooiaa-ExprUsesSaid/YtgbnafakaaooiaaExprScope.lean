/- The program's scopes: what a scope speaks of, entry, element, named, variable, plain, item, none, hasChan, hasLoc; literal, had. -/
import Derived.Test.YtgbnafakaaooiaaExprWork
namespace Go.Proofs.Ytgbnafakaaooiaa
open Go.ChangeShapes Go.WideShapes Go.ChangeAt Go.RowKit

/-- What a scope speaks of. -/
structure Sc where
  sizes : List Int
  vars : List (Int × Int)
  chans : List Int
  procs : List Int
  locals : List (Int × Int)
  self : Int
/-- A scope as it lies. -/
structure ScX where
  (a1 a2 a3 a4 a5 : Option Addr)
  (n1 c1 n2 c2 n3 c3 n4 c4 n5 c5 : Nat)
  self : Int
@[reducible] def ScX.v (X : ScX) : Value := .agg #[.slice X.a1 X.n1 X.c1, .slice X.a2 X.n2 X.c2, .slice X.a3 X.n3 X.c3, .slice X.a4 X.n4 X.c4, .slice X.a5 X.n5 X.c5, .int .i64 X.self]

/-- A slice of api.Var at address A (nil let in) reads as l. -/
def VA (w : World) (A : Option Addr) (l : List (Int × Int)) : Prop :=
  0 < l.length → ∃ b off, A = some ⟨b, off, none⟩ ∧ b < w.heap.size ∧ ∀ i, i < l.length → ∃ (s : ByteArray) (p q r : Int), w.cell? ⟨b, off + i * 6, none⟩ = some (.string s) ∧ w.cell? ⟨b, off + i * 6 + 1, none⟩ = some (.int .i64 (l.getD i (0, 0)).1) ∧ w.cell? ⟨b, off + i * 6 + 2, none⟩ = some (.int .i64 (l.getD i (0, 0)).2) ∧ w.cell? ⟨b, off + i * 6 + 3, none⟩ = some (.int .i64 p) ∧ w.cell? ⟨b, off + i * 6 + 4, none⟩ = some (.int .i64 q) ∧ w.cell? ⟨b, off + i * 6 + 5, none⟩ = some (.int .i64 r)
theorem VA.below {w w' : World} {A : Option Addr} {l : List (Int × Int)} (h : VA w A l) (hk : Below w.heap.size w w') : VA w' A l := fun hn => by
  obtain ⟨b, off, e, hb, hc⟩ := h hn
  refine ⟨b, off, e, Nat.lt_of_lt_of_le hb hk.size, fun i hi => ?_⟩
  obtain ⟨s, p, q, r, h0, h1, h2, h3, h4, h5⟩ := hc i hi
  exact ⟨s, p, q, r, (hk.cell (p := ⟨b, off + i * 6, none⟩) hb).trans h0, (hk.cell (p := ⟨b, off + i * 6 + 1, none⟩) hb).trans h1, (hk.cell (p := ⟨b, off + i * 6 + 2, none⟩) hb).trans h2, (hk.cell (p := ⟨b, off + i * 6 + 3, none⟩) hb).trans h3, (hk.cell (p := ⟨b, off + i * 6 + 4, none⟩) hb).trans h4, (hk.cell (p := ⟨b, off + i * 6 + 5, none⟩) hb).trans h5⟩
theorem entryV_yes (A : Option Addr) (c n k : Nat) (l : List (Int × Int)) (w : World) (hn : n = l.length) (hA : VA w A l) (hk : k < n) :
    Calls Try.prog 71 #[.slice A n c, .int .i64 k] w fun e w' => (∃ (s : ByteArray) (p q r : Int), e = .returned (.tuple #[.agg #[.string s, .int .i64 (l.getD k (0, 0)).1, .int .i64 (l.getD k (0, 0)).2, .int .i64 p, .int .i64 q, .int .i64 r], .bool true])) ∧ Below w.heap.size w w' := by
  obtain ⟨b, o, rfl, hb, hc⟩ := hA (by omega)
  obtain ⟨s, p, q, r, h0, h1, h2, h3, h4, h5⟩ := hc k (by omega)
  generalize (l.getD k (0, 0)).1 = x at *
  generalize (l.getD k (0, 0)).2 = y at *
  clear hc hA hn
  go_enter Try.func71, Try.ntmps71
  go_wp2
  exact bodyPost_ret (v := .tuple #[.agg #[.string s, .int .i64 x, .int .i64 y, .int .i64 p, .int .i64 q, .int .i64 r], .bool true]) (by simp [results, Try.results71, go_sem]) rfl ⟨⟨s, p, q, r, rfl⟩, (Below.refl _ _).alloc (Nat.le_refl _) _⟩
theorem entryV_no (A : Option Addr) (c n : Nat) (k : Int) (w : World) (hk : k < 0 ∨ (n : Int) ≤ k) :
    Calls Try.prog 71 #[.slice A n c, .int .i64 k] w fun e w' => e = .returned (.tuple #[.agg #[.string ⟨#[]⟩, .int .i64 0, .int .i64 0, .int .i64 0, .int .i64 0, .int .i64 0], .bool false]) ∧ Below w.heap.size w w' := by
  rcases hk with hk | hk
  · go_enter Try.func71, Try.ntmps71
    go_wp2
    exact bodyPost_ret (v := .tuple #[.agg #[.string ⟨#[]⟩, .int .i64 0, .int .i64 0, .int .i64 0, .int .i64 0, .int .i64 0], .bool false]) (by simp [results, Try.results71, go_sem]) rfl ⟨rfl, ((Below.refl _ _).alloc (Nat.le_refl _) _).alloc (by simp) _⟩
  · have hk2 : ¬ k < 0 := by omega
    go_enter Try.func71, Try.ntmps71
    go_wp2
    exact bodyPost_ret (v := .tuple #[.agg #[.string ⟨#[]⟩, .int .i64 0, .int .i64 0, .int .i64 0, .int .i64 0, .int .i64 0], .bool false]) (by simp [results, Try.results71, go_sem]) rfl ⟨rfl, ((Below.refl _ _).alloc (Nat.le_refl _) _).alloc (by simp) _⟩
/-- A slice of api.Chan at address A (nil let in) reads as l. -/
def CA (w : World) (A : Option Addr) (l : List Int) : Prop :=
  0 < l.length → ∃ b off, A = some ⟨b, off, none⟩ ∧ b < w.heap.size ∧ ∀ i, i < l.length → ∃ (s : ByteArray) (p q r : Int) (t : Bool), w.cell? ⟨b, off + i * 6, none⟩ = some (.string s) ∧ w.cell? ⟨b, off + i * 6 + 1, none⟩ = some (.int .i64 (l.getD i 0)) ∧ w.cell? ⟨b, off + i * 6 + 2, none⟩ = some (.int .i64 p) ∧ w.cell? ⟨b, off + i * 6 + 3, none⟩ = some (.int .i64 q) ∧ w.cell? ⟨b, off + i * 6 + 4, none⟩ = some (.int .i64 r) ∧ w.cell? ⟨b, off + i * 6 + 5, none⟩ = some (.bool t)
theorem CA.below {w w' : World} {A : Option Addr} {l : List Int} (h : CA w A l) (hk : Below w.heap.size w w') : CA w' A l := fun hn => by
  obtain ⟨b, off, e, hb, hc⟩ := h hn
  refine ⟨b, off, e, Nat.lt_of_lt_of_le hb hk.size, fun i hi => ?_⟩
  obtain ⟨s, p, q, r, t, h0, h1, h2, h3, h4, h5⟩ := hc i hi
  exact ⟨s, p, q, r, t, (hk.cell (p := ⟨b, off + i * 6, none⟩) hb).trans h0, (hk.cell (p := ⟨b, off + i * 6 + 1, none⟩) hb).trans h1, (hk.cell (p := ⟨b, off + i * 6 + 2, none⟩) hb).trans h2, (hk.cell (p := ⟨b, off + i * 6 + 3, none⟩) hb).trans h3, (hk.cell (p := ⟨b, off + i * 6 + 4, none⟩) hb).trans h4, (hk.cell (p := ⟨b, off + i * 6 + 5, none⟩) hb).trans h5⟩
theorem entryC_yes (A : Option Addr) (c n k : Nat) (l : List Int) (w : World) (hn : n = l.length) (hA : CA w A l) (hk : k < n) :
    Calls Try.prog 50 #[.slice A n c, .int .i64 k] w fun e w' => (∃ (s : ByteArray) (p q r : Int) (t : Bool), e = .returned (.tuple #[.agg #[.string s, .int .i64 (l.getD k 0), .int .i64 p, .int .i64 q, .int .i64 r, .bool t], .bool true])) ∧ Below w.heap.size w w' := by
  obtain ⟨b, o, rfl, hb, hc⟩ := hA (by omega)
  obtain ⟨s, p, q, r, t, h0, h1, h2, h3, h4, h5⟩ := hc k (by omega)
  generalize l.getD k 0 = x at *
  clear hc hA hn
  go_enter Try.func50, Try.ntmps50
  go_wp2
  exact bodyPost_ret (v := .tuple #[.agg #[.string s, .int .i64 x, .int .i64 p, .int .i64 q, .int .i64 r, .bool t], .bool true]) (by simp [results, Try.results50, go_sem]) rfl ⟨⟨s, p, q, r, t, rfl⟩, (Below.refl _ _).alloc (Nat.le_refl _) _⟩
theorem entryC_no (A : Option Addr) (c n : Nat) (k : Int) (w : World) (hk : k < 0 ∨ (n : Int) ≤ k) :
    Calls Try.prog 50 #[.slice A n c, .int .i64 k] w fun e w' => e = .returned (.tuple #[.agg #[.string ⟨#[]⟩, .int .i64 0, .int .i64 0, .int .i64 0, .int .i64 0, .bool false], .bool false]) ∧ Below w.heap.size w w' := by
  rcases hk with hk | hk
  · go_enter Try.func50, Try.ntmps50
    go_wp2
    exact bodyPost_ret (v := .tuple #[.agg #[.string ⟨#[]⟩, .int .i64 0, .int .i64 0, .int .i64 0, .int .i64 0, .bool false], .bool false]) (by simp [results, Try.results50, go_sem]) rfl ⟨rfl, ((Below.refl _ _).alloc (Nat.le_refl _) _).alloc (by simp) _⟩
  · have hk2 : ¬ k < 0 := by omega
    go_enter Try.func50, Try.ntmps50
    go_wp2
    exact bodyPost_ret (v := .tuple #[.agg #[.string ⟨#[]⟩, .int .i64 0, .int .i64 0, .int .i64 0, .int .i64 0, .bool false], .bool false]) (by simp [results, Try.results50, go_sem]) rfl ⟨rfl, ((Below.refl _ _).alloc (Nat.le_refl _) _).alloc (by simp) _⟩
/-- A slice of api.Proc at address A (nil let in) reads as l. -/
def QA (w : World) (A : Option Addr) (l : List Int) : Prop :=
  0 < l.length → ∃ b off, A = some ⟨b, off, none⟩ ∧ b < w.heap.size ∧ ∀ i, i < l.length → ∃ (s : ByteArray) (p : Int) (A1 A2 : Option Addr) (m1 d1 m2 d2 : Nat), w.cell? ⟨b, off + i * 5, none⟩ = some (.string s) ∧ w.cell? ⟨b, off + i * 5 + 1, none⟩ = some (.int .i64 p) ∧ w.cell? ⟨b, off + i * 5 + 2, none⟩ = some (.int .i64 (l.getD i 0)) ∧ w.cell? ⟨b, off + i * 5 + 3, none⟩ = some (.slice A1 m1 d1) ∧ w.cell? ⟨b, off + i * 5 + 4, none⟩ = some (.slice A2 m2 d2)
theorem QA.below {w w' : World} {A : Option Addr} {l : List Int} (h : QA w A l) (hk : Below w.heap.size w w') : QA w' A l := fun hn => by
  obtain ⟨b, off, e, hb, hc⟩ := h hn
  refine ⟨b, off, e, Nat.lt_of_lt_of_le hb hk.size, fun i hi => ?_⟩
  obtain ⟨s, p, A1, A2, m1, d1, m2, d2, h0, h1, h2, h3, h4⟩ := hc i hi
  exact ⟨s, p, A1, A2, m1, d1, m2, d2, (hk.cell (p := ⟨b, off + i * 5, none⟩) hb).trans h0, (hk.cell (p := ⟨b, off + i * 5 + 1, none⟩) hb).trans h1, (hk.cell (p := ⟨b, off + i * 5 + 2, none⟩) hb).trans h2, (hk.cell (p := ⟨b, off + i * 5 + 3, none⟩) hb).trans h3, (hk.cell (p := ⟨b, off + i * 5 + 4, none⟩) hb).trans h4⟩
theorem entryQ_yes (A : Option Addr) (c n k : Nat) (l : List Int) (w : World) (hn : n = l.length) (hA : QA w A l) (hk : k < n) :
    Calls Try.prog 52 #[.slice A n c, .int .i64 k] w fun e w' => (∃ (s : ByteArray) (p : Int) (A1 A2 : Option Addr) (m1 d1 m2 d2 : Nat), e = .returned (.tuple #[.agg #[.string s, .int .i64 p, .int .i64 (l.getD k 0), .slice A1 m1 d1, .slice A2 m2 d2], .bool true])) ∧ Below w.heap.size w w' := by
  obtain ⟨b, o, rfl, hb, hc⟩ := hA (by omega)
  obtain ⟨s, p, A1, A2, m1, d1, m2, d2, h0, h1, h2, h3, h4⟩ := hc k (by omega)
  generalize l.getD k 0 = x at *
  clear hc hA hn
  go_enter Try.func52, Try.ntmps52
  go_wp2
  exact bodyPost_ret (v := .tuple #[.agg #[.string s, .int .i64 p, .int .i64 x, .slice A1 m1 d1, .slice A2 m2 d2], .bool true]) (by simp [results, Try.results52, go_sem]) rfl ⟨⟨s, p, A1, A2, m1, d1, m2, d2, rfl⟩, (Below.refl _ _).alloc (Nat.le_refl _) _⟩
theorem entryQ_no (A : Option Addr) (c n : Nat) (k : Int) (w : World) (hk : k < 0 ∨ (n : Int) ≤ k) :
    Calls Try.prog 52 #[.slice A n c, .int .i64 k] w fun e w' => e = .returned (.tuple #[.agg #[.string ⟨#[]⟩, .int .i64 0, .int .i64 0, .slice none 0 0, .slice none 0 0], .bool false]) ∧ Below w.heap.size w w' := by
  rcases hk with hk | hk
  · go_enter Try.func52, Try.ntmps52
    go_wp2
    exact bodyPost_ret (v := .tuple #[.agg #[.string ⟨#[]⟩, .int .i64 0, .int .i64 0, .slice none 0 0, .slice none 0 0], .bool false]) (by simp [results, Try.results52, go_sem]) rfl ⟨rfl, ((Below.refl _ _).alloc (Nat.le_refl _) _).alloc (by simp) _⟩
  · have hk2 : ¬ k < 0 := by omega
    go_enter Try.func52, Try.ntmps52
    go_wp2
    exact bodyPost_ret (v := .tuple #[.agg #[.string ⟨#[]⟩, .int .i64 0, .int .i64 0, .slice none 0 0, .slice none 0 0], .bool false]) (by simp [results, Try.results52, go_sem]) rfl ⟨rfl, ((Below.refl _ _).alloc (Nat.le_refl _) _).alloc (by simp) _⟩
/-- A slice of api.Scalar at address A (nil let in) reads as l. -/
def SA (w : World) (A : Option Addr) (l : List Int) : Prop :=
  0 < l.length → ∃ b off, A = some ⟨b, off, none⟩ ∧ b < w.heap.size ∧ ∀ i, i < l.length → ∃ (s : ByteArray), w.cell? ⟨b, off + i * 2, none⟩ = some (.string s) ∧ w.cell? ⟨b, off + i * 2 + 1, none⟩ = some (.int .i64 (l.getD i 0))
theorem SA.below {w w' : World} {A : Option Addr} {l : List Int} (h : SA w A l) (hk : Below w.heap.size w w') : SA w' A l := fun hn => by
  obtain ⟨b, off, e, hb, hc⟩ := h hn
  refine ⟨b, off, e, Nat.lt_of_lt_of_le hb hk.size, fun i hi => ?_⟩
  obtain ⟨s, h0, h1⟩ := hc i hi
  exact ⟨s, (hk.cell (p := ⟨b, off + i * 2, none⟩) hb).trans h0, (hk.cell (p := ⟨b, off + i * 2 + 1, none⟩) hb).trans h1⟩
theorem entryS_yes (A : Option Addr) (c n k : Nat) (l : List Int) (w : World) (hn : n = l.length) (hA : SA w A l) (hk : k < n) :
    Calls Try.prog 53 #[.slice A n c, .int .i64 k] w fun e w' => (∃ (s : ByteArray), e = .returned (.tuple #[.agg #[.string s, .int .i64 (l.getD k 0)], .bool true])) ∧ Below w.heap.size w w' := by
  obtain ⟨b, o, rfl, hb, hc⟩ := hA (by omega)
  obtain ⟨s, h0, h1⟩ := hc k (by omega)
  generalize l.getD k 0 = x at *
  clear hc hA hn
  go_enter Try.func53, Try.ntmps53
  go_wp2
  exact bodyPost_ret (v := .tuple #[.agg #[.string s, .int .i64 x], .bool true]) (by simp [results, Try.results53, go_sem]) rfl ⟨⟨s, rfl⟩, (Below.refl _ _).alloc (Nat.le_refl _) _⟩
theorem entryS_no (A : Option Addr) (c n : Nat) (k : Int) (w : World) (hk : k < 0 ∨ (n : Int) ≤ k) :
    Calls Try.prog 53 #[.slice A n c, .int .i64 k] w fun e w' => e = .returned (.tuple #[.agg #[.string ⟨#[]⟩, .int .i64 0], .bool false]) ∧ Below w.heap.size w w' := by
  rcases hk with hk | hk
  · go_enter Try.func53, Try.ntmps53
    go_wp2
    exact bodyPost_ret (v := .tuple #[.agg #[.string ⟨#[]⟩, .int .i64 0], .bool false]) (by simp [results, Try.results53, go_sem]) rfl ⟨rfl, ((Below.refl _ _).alloc (Nat.le_refl _) _).alloc (by simp) _⟩
  · have hk2 : ¬ k < 0 := by omega
    go_enter Try.func53, Try.ntmps53
    go_wp2
    exact bodyPost_ret (v := .tuple #[.agg #[.string ⟨#[]⟩, .int .i64 0], .bool false]) (by simp [results, Try.results53, go_sem]) rfl ⟨rfl, ((Below.refl _ _).alloc (Nat.le_refl _) _).alloc (by simp) _⟩

def fitB (n lo hi : Int) : Bool := decide (lo ≤ n ∧ n ≤ hi)
theorem fits_any (n lo hi : Int) (w : World) : Calls Try.prog 48 #[.int .i64 n, .int .i64 lo, .int .i64 hi] w fun e w' => e = .returned (.bool (fitB n lo hi)) ∧ w = w' := by
  by_cases h1 : lo ≤ n
  · by_cases h2 : n ≤ hi
    · have HE : Hid (fitB n lo hi = true) := Lib.hid (decide_eq_true ⟨h1, h2⟩)
      go_enter Try.func48, Try.ntmps48
      go_wp2
      go_ret
      exact ⟨by rw [HE.out]; rfl, rfl⟩
    · have HE : Hid (fitB n lo hi = false) := Lib.hid (decide_eq_false (by omega))
      go_enter Try.func48, Try.ntmps48
      go_wp2
      go_ret
      exact ⟨by rw [HE.out]; rfl, rfl⟩
  · have HE : Hid (fitB n lo hi = false) := Lib.hid (decide_eq_false (by omega))
    go_enter Try.func48, Try.ntmps48
    go_wp2
    go_ret
    exact ⟨by rw [HE.out]; rfl, rfl⟩
/-- What is there, or why it is not. -/
def hadF (x : Int) (is : Bool) (why : Int) : Int × Int := if is then (x, 0) else (0, why)
theorem had_any (x why : Int) (is : Bool) (w : World) : Calls Try.prog 28 #[.int .i64 x, .bool is, .int .i64 why] w fun e w' => e = .returned (.tuple #[.int .i64 (hadF x is why).1, .int .i64 (hadF x is why).2]) ∧ w = w' := by
  cases is
  all_goals
    go_enter Try.func28, Try.ntmps28
    go_wp2
    go_ret2
    exact ⟨rfl, rfl⟩
theorem literal_any (n : Int) (w : World) : Calls Try.prog 24 #[.int .i64 n] w fun e w' => e = .returned (.tuple #[.int .i64 (hadF n (fitB n (-1048576) 1048576) 10).1, .int .i64 (hadF n (fitB n (-1048576) 1048576) 10).2]) ∧ w = w' := by
  obtain ⟨b, HB⟩ : ∃ b, Hid (fitB n (-1048576) 1048576 = b) := ⟨_, Lib.hid rfl⟩
  go_enter Try.func24, Try.ntmps24
  go_wp2_with fail
  refine (fits_any n (-1048576) 1048576 _).mono ?_
  rintro e w' ⟨rfl, rfl⟩
  rw [HB.out]
  go_wp2_with fail
  refine (had_any n 10 b _).mono ?_
  rintro e w' ⟨rfl, rfl⟩
  go_wp2
  go_ret2
  exact ⟨by rw [HB.out]; rfl, rfl⟩

/-- The kind that a Scalar, or an Over, says. -/
def kindOf (s : Int) : Int := if s = 0 then 0 else 1 + s
theorem element_yes (X : ScX) (s : Int) (w : World) (h1 : 1 ≤ s) (h2 : s ≤ X.n1) (hn : X.n1 ≤ 1000000000000000) : Calls Try.prog 27 #[X.v, .int .i64 s] w fun e w' => e = .returned (.tuple #[.int .i64 (1 + s), .bool true]) ∧ Below w.heap.size w w' := by
  have HE : Hid (fitB s 1 X.n1 = true) := Lib.hid (decide_eq_true ⟨h1, h2⟩)
  unfold ScX.v
  go_enter Try.func27, Try.ntmps27
  go_wp2_with fail
  refine (fits_any s 1 X.n1 _).mono ?_
  rintro e w' ⟨rfl, rfl⟩
  rw [HE.out]
  go_wp2
  go_ret2
  exact ⟨rfl, (Below.refl _ _).alloc (Nat.le_refl _) _⟩
theorem element_no (X : ScX) (s : Int) (w : World) (h : s < 1 ∨ (X.n1 : Int) < s) : Calls Try.prog 27 #[X.v, .int .i64 s] w fun e w' => e = .returned (.tuple #[.int .i64 0, .bool false]) ∧ Below w.heap.size w w' := by
  have HE : Hid (fitB s 1 X.n1 = false) := Lib.hid (decide_eq_false (by omega))
  clear h
  unfold ScX.v
  go_enter Try.func27, Try.ntmps27
  go_wp2_with fail
  refine (fits_any s 1 X.n1 _).mono ?_
  rintro e w' ⟨rfl, rfl⟩
  rw [HE.out]
  go_wp2
  go_ret2
  exact ⟨rfl, (Below.refl _ _).alloc (Nat.le_refl _) _⟩
theorem named_yes (X : ScX) (s : Int) (w : World) (h1 : 0 ≤ s) (h2 : s ≤ X.n1) (hn : X.n1 ≤ 1000000000000000) : Calls Try.prog 51 #[X.v, .int .i64 s] w fun e w' => e = .returned (.tuple #[.int .i64 (kindOf s), .bool true]) ∧ Below w.heap.size w w' := by
  by_cases h0 : s = 0
  · subst h0
    unfold ScX.v
    go_enter Try.func51, Try.ntmps51
    go_wp2
    go_ret2
    exact ⟨rfl, (Below.refl _ _).alloc (Nat.le_refl _) _⟩
  · have HK : Hid (kindOf s = 1 + s) := Lib.hid (if_neg h0)
    unfold ScX.v
    go_enter Try.func51, Try.ntmps51
    go_wp2_with fail
    refine (element_yes X s _ (by omega) h2 hn).mono ?_
    rintro e w' ⟨rfl, hb⟩
    have HB := Lib.hid hb
    clear hb
    go_wp2
    go_ret2
    exact ⟨by rw [HK.out]; rfl, ((Below.refl _ _).alloc (Nat.le_refl _) _).trans (HB.out.mono (by simp))⟩
theorem named_no (X : ScX) (s : Int) (w : World) (h : s < 0 ∨ (X.n1 : Int) < s) : Calls Try.prog 51 #[X.v, .int .i64 s] w fun e w' => e = .returned (.tuple #[.int .i64 0, .bool false]) ∧ Below w.heap.size w w' := by
  have h0 : ¬ s = 0 := by omega
  have HX := Lib.hid h
  clear h
  unfold ScX.v
  go_enter Try.func51, Try.ntmps51
  go_wp2_with fail
  refine (element_no X s _ (by have := HX.out; omega)).mono ?_
  rintro e w' ⟨rfl, hb⟩
  have HB := Lib.hid hb
  clear hb
  go_wp2
  go_ret2
  exact ⟨rfl, ((Below.refl _ _).alloc (Nat.le_refl _) _).trans (HB.out.mono (by simp))⟩
end Go.Proofs.Ytgbnafakaaooiaa
