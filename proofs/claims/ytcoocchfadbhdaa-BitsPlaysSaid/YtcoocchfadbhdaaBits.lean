/- Contracts of package bits: New, Len, Has, Put, Drop and what they call. -/
import Derived.Test.YtcoocchfadbhdaaBitsPure
import Derived.Laws.MakeOwn
import Derived.Deep.RegionWith
namespace Go.Proofs.Ytcoocchfadbhdaa
open Go.ChangeShapes Go.WideShapes Go.ChangeAt Go.RowKit

/-- What lies in a set's struct. -/
def headF (mk : Bool) (n : Nat) (A : Option Addr) (m c : Nat) : Nat → Value
  | 0 => .bool mk
  | 1 => .int .i64 n
  | _ => .slice A m c
/-- A pointer to a set's struct, nil let in. -/
def HD (w : World) (p : Option Addr) (mk : Bool) (n : Nat) (A : Option Addr) (m c : Nat) : Prop :=
  (p = none ∧ mk = false ∧ n = 0 ∧ A = none ∧ m = 0 ∧ c = 0) ∨ ∃ s, p = some ⟨s, 0, none⟩ ∧ w.rowIs s 60 3 (headF mk n A m c)
theorem HD.drewN {w : World} {p : Option Addr} {mk : Bool} {n : Nat} {A : Option Addr} {m c : Nat} (h : HD w p mk n A m c) (j : Nat) : HD (w.drewN j) p mk n A m c := h

theorem len_any {w : World} {p : Option Addr} {mk : Bool} {n : Nat} {A : Option Addr} {m c : Nat} (h : HD w p mk n A m c) :
    Calls Try.prog 17 #[.pointer p] w fun e w' => e = .returned (.int .i64 n) ∧ w = w' := by
  rcases h with ⟨rfl, rfl, rfl, rfl, rfl, rfl⟩ | ⟨s, rfl, h⟩
  · go_enter Try.func17, Try.ntmps17
    go_wp2
    go_ret
    exact ⟨rfl, rfl⟩
  · have c1 := h.cell (i := 1) (by omega)
    simp only [headF] at c1
    clear h
    go_enter Try.func17, Try.ntmps17
    go_wp2
    go_ret
    exact ⟨rfl, rfl⟩
theorem held_any {w : World} {p : Option Addr} {mk : Bool} {n : Nat} {A : Option Addr} {m c : Nat} (h : HD w p mk n A m c) :
    Calls Try.prog 57 #[.pointer p] w fun e w' => e = .returned (.slice A m c) ∧ w = w' := by
  rcases h with ⟨rfl, rfl, rfl, rfl, rfl, rfl⟩ | ⟨s, rfl, h⟩
  · go_enter Try.func57, Try.ntmps57
    go_wp2
    go_ret
    exact ⟨rfl, rfl⟩
  · have c1 := h.cell (i := 2) (by omega)
    simp only [headF] at c1
    clear h
    go_enter Try.func57, Try.ntmps57
    go_wp2
    go_ret
    exact ⟨rfl, rfl⟩
theorem isMade_any {w : World} {p : Option Addr} {mk : Bool} {n : Nat} {A : Option Addr} {m c : Nat} (h : HD w p mk n A m c) :
    Calls Try.prog 63 #[.pointer p] w fun e w' => e = .returned (.bool mk) ∧ w = w' := by
  rcases h with ⟨rfl, rfl, rfl, rfl, rfl, rfl⟩ | ⟨s, rfl, h⟩
  · go_enter Try.func63, Try.ntmps63
    go_wp2
    go_ret
    exact ⟨rfl, rfl⟩
  · have c1 := h.cell (i := 0) (by omega)
    simp only [headF] at c1
    clear h
    go_enter Try.func63, Try.ntmps63
    go_wp2
    go_ret
    exact ⟨rfl, rfl⟩

theorem spans_yes {w : World} {p : Option Addr} {mk : Bool} {n : Nat} {A : Option Addr} {m c : Nat} (h : HD w p mk n A m c) (i : Int) (h1 : 0 ≤ i) (h2 : i < n) :
    Calls Try.prog 50 #[.pointer p, .int .i64 i] w fun e w' => e = .returned (.bool true) ∧ w = w' := by
  have H := Lib.hid h
  clear h
  go_enter Try.func50, Try.ntmps50
  go_wp2_with (go_at_call 17; refine (len_any H.out).mono ?_; rintro e w' ⟨rfl, rfl⟩)
  go_ret
  exact ⟨rfl, rfl⟩
theorem spans_no {w : World} {p : Option Addr} {mk : Bool} {n : Nat} {A : Option Addr} {m c : Nat} (h : HD w p mk n A m c) (i : Int) (h1 : i < 0 ∨ n ≤ i) :
    Calls Try.prog 50 #[.pointer p, .int .i64 i] w fun e w' => e = .returned (.bool false) ∧ w = w' := by
  have H := Lib.hid h
  clear h
  by_cases h2 : i < 0
  · clear h1
    go_enter Try.func50, Try.ntmps50
    go_wp2_with (go_at_call 17; refine (len_any H.out).mono ?_; rintro e w' ⟨rfl, rfl⟩)
    go_ret
    exact ⟨rfl, rfl⟩
  · have h3 : 0 ≤ i := by omega
    have h4 : (n : Int) ≤ i := by omega
    clear h1
    go_enter Try.func50, Try.ntmps50
    go_wp2_with (go_at_call 17; refine (len_any H.out).mono ?_; rintro e w' ⟨rfl, rfl⟩)
    go_ret
    exact ⟨ret_bool (by simpa using h4), rfl⟩

theorem wrap_pw (i : Nat) : IntKind.u64.wrap (2 ^ (i % 64)) = pw (i % 64) := by
  have h := pw_lt (j := i % 64) (by omega)
  have e := pw_nat (i % 64)
  unfold pw at *
  obtain ⟨p, hp⟩ : ∃ p : Nat, 2 ^ (i % 64) = p := ⟨_, rfl⟩
  rw [hp] at h e
  rw [e, IntKind.wrap_u64]
  omega
theorem place_any (i : Nat) (w : World) (hi : i ≤ 9223372036854775807) :
    Calls Try.prog 51 #[.int .i64 i] w fun e w' => e = .returned (.tuple #[.int .i64 ((i / 64 : Nat) : Int), .int .u64 (pw (i % 64))]) ∧ ∃ j, w' = w.drewN j := by
  have h0 : (0 : Int) ≤ (i : Int) % 64 := by omega
  have h1 : (i : Int) % 64 < 64 := by omega
  go_enter Try.func51, Try.ntmps51
  go_wp2
  go_quiet (fail)
  go_wp2
  go_ret2
  refine ⟨?_, nq, rfl⟩
  show Ending.returned (.tuple #[.int .i64 ((i : Int) / 64), .int .u64 (IntKind.u64.wrap (2 ^ (i % 64)))]) = _
  rw [wrap_pw, show ((i : Int) / 64) = ((i / 64 : Nat) : Int) by omega]

/-- How many words a set of length n has. -/
def SW (n : Nat) : Nat := (n + 63) / 64
/-- A set of length n that a call made: its struct in block s, its words in block t, its numbers those of g. -/
structure ST (w : World) (s t n : Nat) (g : Nat → Bool) : Prop where
  head : w.rowIs s 60 3 (headF true n (some ⟨t, 0, none⟩) (SW n) (SW n))
  words : w.rowIs t 51 (SW n) (fun k => .int .u64 (W g k))
  ne : s ≠ t
  len : n ≤ 65536
  off : ∀ i, n ≤ i → g i = false
theorem ST.hd {w : World} {s t n : Nat} {g : Nat → Bool} (h : ST w s t n g) : HD w (some ⟨s, 0, none⟩) true n (some ⟨t, 0, none⟩) (SW n) (SW n) := .inr ⟨s, rfl, h.head⟩
theorem ST.drewN {w : World} {s t n : Nat} {g : Nat → Bool} (h : ST w s t n g) (j : Nat) : ST (w.drewN j) s t n g := ⟨h.head, h.words, h.ne, h.len, h.off⟩
theorem ST.of_blocks {w w' : World} {s t n : Nat} {g : Nat → Bool} (h : ST w s t n g) (h1 : w'.heap[s]? = w.heap[s]?) (h2 : w'.heap[t]? = w.heap[t]?) : ST w' s t n g := ⟨h.head.of_block h1, h.words.of_block h2, h.ne, h.len, h.off⟩
theorem ST.below {w w' : World} {s t n B : Nat} {g : Nat → Bool} (h : ST w s t n g) (hb : Below B w w') (h1 : s < B) (h2 : t < B) : ST w' s t n g := h.of_blocks (hb.block s h1) (hb.block t h2)
theorem ST.keep {w w' : World} {s t n : Nat} {g : Nat → Bool} (h : ST w s t n g) (hb : Below w.heap.size w w') : ST w' s t n g := h.below hb h.head.lt h.words.lt
theorem ST.congr {w : World} {s t n : Nat} {g f : Nat → Bool} (h : ST w s t n g) (e : ∀ i, i < n → g i = f i) (hf : ∀ i, n ≤ i → f i = false) : ST w s t n f :=
  ⟨h.head, h.words.congr (fun k _ => by rw [W_congr (fun j _ => by
    rcases Nat.lt_or_ge (64 * k + j) n with h1 | h1
    · exact e _ h1
    · rw [h.off _ h1, hf _ h1])]), h.ne, h.len, hf⟩
/-- Another call's doing: only block t may have turned, and new blocks may be there. -/
def Touch (w w' : World) (t : Nat) : Prop := w.grownBy w' (some t)
theorem ST.other {w w' : World} {t s' t' n' : Nat} {g : Nat → Bool} (h : ST w s' t' n' g) (hT : Touch w w' t) (h1 : s' ≠ t) (h2 : t' ≠ t) : ST w' s' t' n' g :=
  h.of_blocks (hT.block _ h.head.lt (fun e => h1 (by injection e))) (hT.block _ h.words.lt (fun e => h2 (by injection e)))

/-- Is i in the set? -/
def memI (g : Nat → Bool) (i : Int) : Bool := decide (0 ≤ i) && g i.toNat
theorem memI_nat (g : Nat → Bool) (i : Nat) : memI g (i : Int) = g i := by simp [memI]

theorem has_in {w : World} {s t n : Nat} {g : Nat → Bool} (h : ST w s t n g) (i : Nat) (hi : i < n) :
    Calls Try.prog 18 #[.pointer (some ⟨s, 0, none⟩), .int .i64 i] w fun e w' => e = .returned (.bool (g i)) ∧ ∃ j, w' = w.drewN j := by
  have H := Lib.hid h
  have hn := h.len
  have hk : i / 64 < SW n := by unfold SW; omega
  have HB : Hid ((bits .and .u64 (W g (i / 64)) (pw (i % 64)) != 0) = g i) := Lib.hid (by rw [has_bit g (i / 64) (i % 64) (by omega)]; congr 1; omega)
  clear h
  go_enter Try.func18, Try.ntmps18
  go_wp2_with fail
  refine (spans_yes H.out.hd i (by omega) (by omega)).mono ?_
  rintro e w' ⟨rfl, rfl⟩
  go_wp2_with fail
  refine (place_any i w (by omega)).mono ?_
  rintro e w' ⟨rfl, j, rfl⟩
  have c1 : (w.drewN j).cell? ⟨s, 2, none⟩ = some (.slice (some ⟨t, 0, none⟩) (SW n) (SW n)) := H.out.head.cell (i := 2) (by omega)
  have c2 : (w.drewN j).cell? ⟨t, i / 64, none⟩ = some (.int .u64 (W g (i / 64))) := H.out.words.cell hk
  generalize i / 64 = k at *
  generalize W g k = x at *
  generalize pw (i % 64) = y at *
  go_wp2
  go_ret
  exact ⟨ret_bool HB.out, _, rfl⟩
theorem has_out {w : World} {p : Option Addr} {mk : Bool} {n : Nat} {A : Option Addr} {m c : Nat} (h : HD w p mk n A m c) (i : Int) (h1 : i < 0 ∨ n ≤ i) :
    Calls Try.prog 18 #[.pointer p, .int .i64 i] w fun e w' => e = .returned (.bool false) ∧ w = w' := by
  have H := Lib.hid h
  have H1 := Lib.hid h1
  clear h h1
  go_enter Try.func18, Try.ntmps18
  go_wp2_with fail
  refine (spans_no H.out i H1.out).mono ?_
  rintro e w' ⟨rfl, rfl⟩
  go_wp2_with fail
  go_ret
  exact ⟨rfl, rfl⟩
theorem has_any {w : World} {s t n : Nat} {g : Nat → Bool} (h : ST w s t n g) (i : Int) :
    Calls Try.prog 18 #[.pointer (some ⟨s, 0, none⟩), .int .i64 i] w fun e w' => e = .returned (.bool (memI g i)) ∧ ∃ j, w' = w.drewN j := by
  by_cases h1 : i < 0 ∨ n ≤ i
  · refine (has_out h.hd i h1).mono ?_
    rintro e w' ⟨rfl, rfl⟩
    refine ⟨ret_bool ?_, 0, rfl⟩
    unfold memI
    by_cases h2 : 0 ≤ i
    · rw [h.off i.toNat (by omega), Bool.and_false]
    · simp [h2]
  · obtain ⟨k, rfl⟩ := Int.eq_ofNat_of_zero_le (show 0 ≤ i by omega)
    rw [memI_nat]
    exact has_in h k (by omega)

theorem put_no {w : World} {s t n : Nat} {g : Nat → Bool} (h : ST w s t n g) (i : Nat) (hi : i < n) (hg : g i = true) :
    Calls Try.prog 21 #[.pointer (some ⟨s, 0, none⟩), .int .i64 i] w fun e w' => e = .returned (.bool false) ∧ ∃ j, w' = w.drewN j := by
  have H := Lib.hid h
  have HG := Lib.hid hg
  clear h hg
  go_enter Try.func21, Try.ntmps21
  go_wp2_with fail
  refine (spans_yes H.out.hd i (by omega) (by omega)).mono ?_
  rintro e w' ⟨rfl, rfl⟩
  go_wp2_with fail
  refine (has_in H.out i hi).mono ?_
  rintro e w' ⟨rfl, j, rfl⟩
  rw [HG.out]
  go_wp2_with fail
  go_ret
  exact ⟨rfl, _, rfl⟩
theorem put_out {w : World} {p : Option Addr} {mk : Bool} {n : Nat} {A : Option Addr} {m c : Nat} (h : HD w p mk n A m c) (i : Int) (h1 : i < 0 ∨ n ≤ i) :
    Calls Try.prog 21 #[.pointer p, .int .i64 i] w fun e w' => e = .returned (.bool false) ∧ w = w' := by
  have H := Lib.hid h
  have H1 := Lib.hid h1
  clear h h1
  go_enter Try.func21, Try.ntmps21
  go_wp2_with fail
  refine (spans_no H.out i H1.out).mono ?_
  rintro e w' ⟨rfl, rfl⟩
  go_wp2_with fail
  go_ret
  exact ⟨rfl, rfl⟩
/-- What a call that turns a set leaves. -/
def Turned (w : World) (s t n : Nat) (g : Nat → Bool) (w' : World) : Prop := ST w' s t n g ∧ Touch w w' t ∧ w'.heap.size = w.heap.size
theorem Turned.of {w : World} {s t n : Nat} {g : Nat → Bool} (h : ST w s t n g) (i : Nat) (hi : i < n) (b : Bool) (j : Nat) :
    Turned w s t n (upd g i b) ((w.drewN j).setCell ⟨t, i / 64, none⟩ (.int .u64 (W (upd g i b) (i / 64)))) := by
  refine ⟨⟨?_, ?_, h.ne, h.len, fun k hk => ?_⟩, ⟨rfl, rfl, rfl, by simp, fun k _ hk => ?_⟩, by simp⟩
  · exact World.rowIs.setOther (w := w.drewN j) h.head (a := ⟨t, i / 64, none⟩) h.ne _
  · refine (World.rowIs.set (w := w.drewN j) h.words (i / 64) _).congr (fun k hk => ?_)
    by_cases e : k = i / 64
    · rw [if_pos e, e]
    · rw [if_neg e, upd_other b e]
  · unfold upd
    rw [if_neg (by omega)]
    exact h.off k hk
  · exact Below.heap_setCell (w.drewN j) ⟨t, i / 64, none⟩ _ k (fun e => hk (by rw [e]))
theorem put_yes {w : World} {s t n : Nat} {g : Nat → Bool} (h : ST w s t n g) (i : Nat) (hi : i < n) (hg : g i = false) :
    Calls Try.prog 21 #[.pointer (some ⟨s, 0, none⟩), .int .i64 i] w fun e w' => e = .returned (.bool true) ∧ Turned w s t n (upd g i true) w' := by
  have H := Lib.hid h
  have HG := Lib.hid hg
  have hn := h.len
  have hk : i / 64 < SW n := by unfold SW; omega
  have HB : Hid (bits .or .u64 (W g (i / 64)) (pw (i % 64)) = W (upd g i true) (i / 64)) := Lib.hid (by rw [put_bit g (i / 64) (i % 64) (by omega), show 64 * (i / 64) + i % 64 = i by omega])
  clear h hg
  go_enter Try.func21, Try.ntmps21
  go_wp2_with fail
  refine (spans_yes H.out.hd i (by omega) (by omega)).mono ?_
  rintro e w' ⟨rfl, rfl⟩
  go_wp2_with fail
  refine (has_in H.out i hi).mono ?_
  rintro e w' ⟨rfl, j, rfl⟩
  rw [HG.out]
  go_wp2_with fail
  refine (place_any i (w.drewN j) (by omega)).mono ?_
  rintro e w' ⟨rfl, j2, rfl⟩
  have HT : Hid (Turned w s t n (upd g i true) (((w.drewN j).drewN j2).setCell ⟨t, i / 64, none⟩ (.int .u64 (W (upd g i true) (i / 64))))) := Lib.hid (by rw [World.drewN_drewN]; exact Turned.of H.out i hi true _)
  rw [← HB.out] at HT
  have c1 : ((w.drewN j).drewN j2).cell? ⟨s, 2, none⟩ = some (.slice (some ⟨t, 0, none⟩) (SW n) (SW n)) := H.out.head.cell (i := 2) (by omega)
  have c2 : ((w.drewN j).drewN j2).cell? ⟨t, i / 64, none⟩ = some (.int .u64 (W g (i / 64))) := H.out.words.cell hk
  have c3 : ((w.drewN j).drewN j2).frozen? ⟨t, i / 64, none⟩ = false := H.out.words.frozen _
  clear HB
  generalize ((w.drewN j).drewN j2) = w2 at *
  generalize i / 64 = k at *
  generalize W g k = x at *
  generalize pw (i % 64) = y at *
  go_wp2
  go_ret
  exact ⟨rfl, HT.out⟩

theorem drop_yes {w : World} {s t n : Nat} {g : Nat → Bool} (h : ST w s t n g) (i : Nat) (hi : i < n) (hg : g i = true) :
    Calls Try.prog 22 #[.pointer (some ⟨s, 0, none⟩), .int .i64 i] w fun e w' => e = .returned (.bool true) ∧ Turned w s t n (upd g i false) w' := by
  have H := Lib.hid h
  have HG := Lib.hid hg
  have hn := h.len
  have hk : i / 64 < SW n := by unfold SW; omega
  have HB : Hid (bits .andNot .u64 (W g (i / 64)) (pw (i % 64)) = W (upd g i false) (i / 64)) := Lib.hid (by rw [drop_bit g (i / 64) (i % 64) (by omega), show 64 * (i / 64) + i % 64 = i by omega])
  clear h hg
  go_enter Try.func22, Try.ntmps22
  go_wp2_with fail
  refine (has_in H.out i hi).mono ?_
  rintro e w' ⟨rfl, j, rfl⟩
  rw [HG.out]
  go_wp2_with fail
  refine (place_any i (w.drewN j) (by omega)).mono ?_
  rintro e w' ⟨rfl, j2, rfl⟩
  have HT : Hid (Turned w s t n (upd g i false) (((w.drewN j).drewN j2).setCell ⟨t, i / 64, none⟩ (.int .u64 (W (upd g i false) (i / 64))))) := Lib.hid (by rw [World.drewN_drewN]; exact Turned.of H.out i hi false _)
  rw [← HB.out] at HT
  have c1 : ((w.drewN j).drewN j2).cell? ⟨s, 2, none⟩ = some (.slice (some ⟨t, 0, none⟩) (SW n) (SW n)) := H.out.head.cell (i := 2) (by omega)
  have c2 : ((w.drewN j).drewN j2).cell? ⟨t, i / 64, none⟩ = some (.int .u64 (W g (i / 64))) := H.out.words.cell hk
  have c3 : ((w.drewN j).drewN j2).frozen? ⟨t, i / 64, none⟩ = false := H.out.words.frozen _
  clear HB
  generalize ((w.drewN j).drewN j2) = w2 at *
  generalize i / 64 = k at *
  generalize W g k = x at *
  generalize pw (i % 64) = y at *
  go_wp2
  go_ret
  exact ⟨rfl, HT.out⟩
theorem drop_out {w : World} {p : Option Addr} {mk : Bool} {n : Nat} {A : Option Addr} {m c : Nat} (h : HD w p mk n A m c) (i : Int) (h1 : i < 0 ∨ n ≤ i) :
    Calls Try.prog 22 #[.pointer p, .int .i64 i] w fun e w' => e = .returned (.bool false) ∧ w = w' := by
  have H := Lib.hid h
  have H1 := Lib.hid h1
  clear h h1
  go_enter Try.func22, Try.ntmps22
  go_wp2_with fail
  refine (has_out H.out i H1.out).mono ?_
  rintro e w' ⟨rfl, rfl⟩
  go_wp2_with fail
  go_ret
  exact ⟨rfl, rfl⟩
theorem drop_no {w : World} {s t n : Nat} {g : Nat → Bool} (h : ST w s t n g) (i : Nat) (hi : i < n) (hg : g i = false) :
    Calls Try.prog 22 #[.pointer (some ⟨s, 0, none⟩), .int .i64 i] w fun e w' => e = .returned (.bool false) ∧ ∃ j, w' = w.drewN j := by
  have H := Lib.hid h
  have HG := Lib.hid hg
  clear h hg
  go_enter Try.func22, Try.ntmps22
  go_wp2_with fail
  refine (has_in H.out i hi).mono ?_
  rintro e w' ⟨rfl, j, rfl⟩
  rw [HG.out]
  go_wp2_with fail
  go_ret
  exact ⟨rfl, _, rfl⟩

/-- What becomes of a set by Put, by Drop: its numbers, and what is told. -/
def putG (g : Nat → Bool) (n : Nat) (i : Int) : Nat → Bool := if 0 ≤ i ∧ i < n then upd g i.toNat true else g
def dropG (g : Nat → Bool) (n : Nat) (i : Int) : Nat → Bool := if 0 ≤ i ∧ i < n then upd g i.toNat false else g
theorem upd_same {g : Nat → Bool} {i : Nat} {b : Bool} (h : g i = b) : upd g i b = g := by
  funext j
  unfold upd
  by_cases e : j = i
  · rw [if_pos e, e, h]
  · rw [if_neg e]
theorem Turned.drewN {w : World} {s t n : Nat} {g : Nat → Bool} (h : ST w s t n g) (j : Nat) : Turned w s t n g (w.drewN j) := ⟨h.drewN j, ⟨rfl, rfl, rfl, Nat.le_refl _, fun _ _ _ => rfl⟩, rfl⟩
theorem put_any {w : World} {s t n : Nat} {g : Nat → Bool} (h : ST w s t n g) (i : Int) :
    Calls Try.prog 21 #[.pointer (some ⟨s, 0, none⟩), .int .i64 i] w fun e w' => e = .returned (.bool (decide (0 ≤ i ∧ i < n) && !memI g i)) ∧ Turned w s t n (putG g n i) w' := by
  by_cases h1 : 0 ≤ i ∧ i < n
  · obtain ⟨k, rfl⟩ := Int.eq_ofNat_of_zero_le h1.1
    rw [memI_nat, decide_eq_true h1, Bool.true_and]
    unfold putG
    rw [if_pos h1, Int.toNat_natCast]
    cases hg : g k with
    | false => exact put_yes h k (by omega) hg
    | true =>
      refine (put_no h k (by omega) hg).mono ?_
      rintro e w' ⟨rfl, j, rfl⟩
      rw [upd_same hg]
      exact ⟨rfl, Turned.drewN h j⟩
  · rw [decide_eq_false h1, Bool.false_and]
    unfold putG
    rw [if_neg h1]
    refine (put_out h.hd i (by omega)).mono ?_
    rintro e w' ⟨rfl, rfl⟩
    exact ⟨rfl, Turned.drewN h 0⟩
theorem drop_any {w : World} {s t n : Nat} {g : Nat → Bool} (h : ST w s t n g) (i : Int) :
    Calls Try.prog 22 #[.pointer (some ⟨s, 0, none⟩), .int .i64 i] w fun e w' => e = .returned (.bool (decide (0 ≤ i ∧ i < n) && memI g i)) ∧ Turned w s t n (dropG g n i) w' := by
  by_cases h1 : 0 ≤ i ∧ i < n
  · obtain ⟨k, rfl⟩ := Int.eq_ofNat_of_zero_le h1.1
    rw [memI_nat, decide_eq_true h1, Bool.true_and]
    unfold dropG
    rw [if_pos h1, Int.toNat_natCast]
    cases hg : g k with
    | true => exact drop_yes h k (by omega) hg
    | false =>
      refine (drop_no h k (by omega) hg).mono ?_
      rintro e w' ⟨rfl, j, rfl⟩
      rw [upd_same hg]
      exact ⟨rfl, Turned.drewN h j⟩
  · rw [decide_eq_false h1, Bool.false_and]
    unfold dropG
    rw [if_neg h1]
    refine (drop_out h.hd i (by omega)).mono ?_
    rintro e w' ⟨rfl, rfl⟩
    exact ⟨rfl, Turned.drewN h 0⟩

theorem Try.info51 : (Try.prog.info? 51).map (fun i => (i.zero, i.size, i.bytes)) = some (some (.int .u64 0), 1, 8) := by kernel_rfl
/-- A new set. -/
def NewSet (w : World) (n : Nat) (g : Nat → Bool) (e : Ending) (w' : World) : Prop := ∃ s t, e = .returned (.pointer (some ⟨s, 0, none⟩)) ∧ ST w' s t n g ∧ w.heap.size ≤ s ∧ w.heap.size ≤ t ∧ Below w.heap.size w w'
theorem new_none (n : Int) (w : World) (h : n < 0 ∨ 65536 < n) : Calls Try.prog 14 #[.int .i64 n] w fun e w' => e = .returned (.pointer none) ∧ w = w' := by
  by_cases h1 : n < 0
  · clear h
    go_enter Try.func14, Try.ntmps14
    go_wp2
    go_ret
    exact ⟨rfl, rfl⟩
  · have h2 : 65536 < n := by omega
    have h3 : 0 ≤ n := by omega
    clear h h1
    go_enter Try.func14, Try.ntmps14
    go_wp2
    go_ret
    exact ⟨rfl, rfl⟩
theorem new_some (n : Nat) (w : World) (h : n ≤ 65536) : Calls Try.prog 14 #[.int .i64 n] w (NewSet w n (fun _ => false)) := by
  obtain ⟨i0, hi, hz0, hz1, hz2⟩ := info_parts Try.info51
  have hmk : ∀ W : World, (Instr.makeSlice 58 (.int .i64 (((n : Int) + 64 - 1) / 64)) (.int .i64 (((n : Int) + 64 - 1) / 64))).run Try.prog W = .ok (.slice (some ⟨W.heap.size, 0, none⟩) (SW n) (SW n)) (W.alloc (.cells (madeCells #[.int .u64 0] (SW n)) 51)) := fun W => by
    have hr := run_make (P := Try.prog) W 58 51 i0 _ Try.underlying58 hi hz0 .i64 .i64 (((n : Int) + 64 - 1) / 64) (((n : Int) + 64 - 1) / 64) (by omega) (Int.le_refl _) (by rw [hz2]; omega) (by omega)
    rw [hr, hz1]
    have e : (((n : Int) + 64 - 1) / 64).toNat = SW n := by unfold SW; omega
    rw [e, Nat.mul_one]
    rfl
  have h1 : (n : Int) ≤ 65536 := by omega
  clear hi hz0 hz1 hz2
  go_enter Try.func14, Try.ntmps14
  go_wp2
  go_ret
  refine ⟨w.heap.size + 1, w.heap.size, rfl, ⟨?_, ?_, by omega, h, fun _ _ => rfl⟩, by omega, Nat.le_refl _, ((Below.refl _ _).alloc (Nat.le_refl _) _).alloc (by simp) _⟩
  · have h1 := World.rowIs_alloc (w.alloc (.cells (madeCells #[.int .u64 0] (SW n)) 51)) #[.bool true, .int .i64 (n : Int), .slice (some ⟨w.heap.size, 0, none⟩) (SW n) (SW n)] 60 (headF true n (some ⟨w.heap.size, 0, none⟩) (SW n) (SW n)) (fun i hi => by
      obtain rfl | rfl | rfl : i = 0 ∨ i = 1 ∨ i = 2 := by simp at hi; omega
      · rfl
      · rfl
      · rfl)
    rw [World.size_alloc] at h1
    exact h1
  · exact ((World.rowIs_made w (.int .u64 0) (SW n) 51).congr (fun k _ => by rw [W_none (fun _ _ => rfl)])).alloc _
end Go.Proofs.Ytcoocchfadbhdaa
