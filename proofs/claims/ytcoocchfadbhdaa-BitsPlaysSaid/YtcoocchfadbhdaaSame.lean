/- Contracts of package bits: Same. -/
import Derived.Test.YtcoocchfadbhdaaMerge
namespace Go.Proofs.Ytcoocchfadbhdaa
open Go.ChangeShapes Go.WideShapes Go.ChangeAt Go.RowKit

/-- A slice of words at address A (nil let in) reads as l. -/
def UA (w : World) (A : Option Addr) (l : List Int) : Prop :=
  0 < l.length → ∃ b off, A = some ⟨b, off, none⟩ ∧ b < w.heap.size ∧ ∀ i, i < l.length → w.cell? ⟨b, off + i, none⟩ = some (.int .u64 (l.getD i 0))
theorem UA.nil (w : World) (A : Option Addr) : UA w A [] := fun h => absurd h (by simp)

set_option maxHeartbeats 1000000 in
theorem equalWords_any (A B : Option Addr) (c d m1 m2 : Nat) (xs ys : List Int) (w : World) (hm1 : m1 = xs.length) (hm2 : m2 = ys.length) (hA : UA w A xs) (hB : UA w B ys) (hxl : xs.length ≤ maxLen) (hyl : ys.length ≤ maxLen) :
    Calls Try.prog 56 #[.slice A m1 c, .slice B m2 d] w fun e w' => e = .returned (.bool (eqB xs ys)) ∧ ∃ n, w' = w.drewN n := by
  subst hm1 hm2
  unfold maxLen at hxl hyl
  by_cases hl : xs.length = ys.length
  · have H := Lib.hid hl
    clear hl
    go_enter Try.func56, Try.ntmps56
    have hl0 : (xs.length : Int) = (ys.length : Int) := by rw [H.out]
    go_wp2
    clear hl0
    go_loopw [13] (fun i wr => ∃ (k j : Nat), k ≤ ys.length ∧ i = .int .i64 k ∧ wr = w.drewN j ∧ Hid (∀ i, i < k → xs.getD i 0 = ys.getD i 0)) (fun i _ => ys.length - (intOf i).toNat)
    case atStart => exact ⟨0, 0, Nat.zero_le _, rfl, rfl, Lib.hid (fun i hi => absurd hi (by omega))⟩
    case round =>
      obtain ⟨k, j, hk, rfl, rfl, HV⟩ := hrel
      by_cases hlty : k < ys.length
      · have hlt : k < xs.length := by rw [H.out]; exact hlty
        obtain ⟨bA, oA, rfl, hbA, hcA⟩ := hA (by omega)
        obtain ⟨bB, oB, rfl, hbB, hcB⟩ := hB (by omega)
        have c1 := hcA k hlt
        have c2 := hcB k hlty
        by_cases t1 : xs.getD k 0 = ys.getD k 0
        · have HS : Hid (∀ i, i < k + 1 → xs.getD i 0 = ys.getD i 0) := Lib.hid (fun i hi => by
            by_cases hik : i = k
            · subst hik; exact t1
            · exact HV.out i (by omega))
          rw [← t1] at c2
          generalize xs.getD k 0 = x at c1 c2
          clear hcA hcB hA hB t1 HV
          go_wp2
          go_quiet (fail)
          go_wp2
          go_roundw
          case rel => exact ⟨k + 1, _, by omega, by go_num, rfl, HS⟩
          case measure => simp [intOf]; omega
        · have HE : Hid (eqB xs ys = false) := Lib.hid (decide_eq_false (fun h => t1 (by rw [h])))
          generalize xs.getD k 0 = x at c1 t1
          generalize ys.getD k 0 = y at c2 t1
          have t2 : (x != y) = true := by simpa using t1
          clear hcA hcB hA hB t1 HV
          go_wp2
          go_quiet (fail)
          go_wp2
          go_ret
          exact ⟨ret_bool HE.out.symm, _, World.drewN_drewN _ _ _⟩
      · have hk2 : k = xs.length := by rw [H.out]; omega
        subst hk2
        have HE : Hid (eqB xs ys = true) := Lib.hid (decide_eq_true (getD_ext' H.out HV.out))
        have hge : ys.length ≤ xs.length := by omega
        clear hlty hk
        go_wp2
        go_ret
        exact ⟨ret_bool HE.out.symm, _, rfl⟩
  · have e : eqB xs ys = false := decide_eq_false (fun h => hl (by rw [h]))
    rw [e]
    go_enter Try.func56, Try.ntmps56
    go_wp2
    go_ret
    exact ⟨rfl, 0, rfl⟩


/-- The words of a set. -/
def wl (g : Nat → Bool) (m : Nat) : List Int := (List.range m).map (W g)
theorem wl_length (g : Nat → Bool) (m : Nat) : (wl g m).length = m := by simp [wl]
theorem wl_at (g : Nat → Bool) {m k : Nat} (h : k < m) : (wl g m).getD k 0 = W g k := by simp [wl, List.getD, h]
theorem ST.ua {w : World} {s t n : Nat} {g : Nat → Bool} (h : ST w s t n g) : UA w (some ⟨t, 0, none⟩) (wl g (SW n)) := fun _ => by
  refine ⟨t, 0, rfl, h.words.lt, fun i hi => ?_⟩
  rw [wl_length] at hi
  rw [Nat.zero_add, wl_at g hi]
  exact h.words.cell hi
theorem wl_inj {g f : Nat → Bool} {n : Nat} (hg : ∀ i, n ≤ i → g i = false) (hf : ∀ i, n ≤ i → f i = false) (h : wl g (SW n) = wl f (SW n)) : g = f := by
  funext i
  by_cases hi : i < n
  · have hk : i / 64 < SW n := by unfold SW; omega
    have h1 : W g (i / 64) = W f (i / 64) := by rw [← wl_at g hk, ← wl_at f hk, h]
    have h2 := W_inj h1 (i % 64) (by omega)
    rwa [show 64 * (i / 64) + i % 64 = i by omega] at h2
  · rw [hg i (by omega), hf i (by omega)]

theorem same_heads {w : World} {p q : Option Addr} {mk mk' : Bool} {n n' : Nat} {A A' : Option Addr} {m c m' c' : Nat} {xs ys : List Int} (h : HD w p mk n A m c) (h' : HD w q mk' n' A' m' c')
    (hx : UA w A xs) (hy : UA w A' ys) (hm : m = xs.length) (hm' : m' = ys.length) (hxl : xs.length ≤ maxLen) (hyl : ys.length ≤ maxLen) :
    Calls Try.prog 29 #[.pointer p, .pointer q] w fun e w' => e = .returned (.bool (decide (n = n') && eqB xs ys)) ∧ ∃ j, w' = w.drewN j := by
  have H := Lib.hid h
  have H' := Lib.hid h'
  have HX := Lib.hid hx
  have HY := Lib.hid hy
  have HM := Lib.hid hm
  have HM' := Lib.hid hm'
  clear h h' hx hy hm hm'
  by_cases hn : n = n'
  · subst hn
    have HE : Hid ((decide (n = n) && eqB xs ys) = eqB xs ys) := Lib.hid (by simp)
    have hb : ((n : Int) == (n : Int)) = true := by simp
    go_enter Try.func29, Try.ntmps29
    go_wp2_with fail
    refine (len_any H.out).mono ?_
    rintro e w' ⟨rfl, rfl⟩
    go_wp2_with fail
    refine (len_any H'.out).mono ?_
    rintro e w' ⟨rfl, rfl⟩
    go_wp2_with fail
    refine (held_any H.out).mono ?_
    rintro e w' ⟨rfl, rfl⟩
    go_wp2_with fail
    refine (held_any H'.out).mono ?_
    rintro e w' ⟨rfl, rfl⟩
    go_wp2_with fail
    refine (equalWords_any A A' c c' m m' xs ys w HM.out HM'.out HX.out HY.out hxl hyl).mono ?_
    rintro e w' ⟨rfl, j, rfl⟩
    go_wp2_with fail
    go_ret
    exact ⟨ret_bool HE.out.symm, _, rfl⟩
  · have HE : Hid ((decide (n = n') && eqB xs ys) = false) := Lib.hid (by simp [hn])
    have hb : ((n : Int) == (n' : Int)) = false := by simp; omega
    go_enter Try.func29, Try.ntmps29
    go_wp2_with fail
    refine (len_any H.out).mono ?_
    rintro e w' ⟨rfl, rfl⟩
    go_wp2_with fail
    refine (len_any H'.out).mono ?_
    rintro e w' ⟨rfl, rfl⟩
    go_wp2_with fail
    go_ret
    exact ⟨ret_bool HE.out.symm, 0, rfl⟩
theorem same_sets {w : World} {s t s' t' n : Nat} {g f : Nat → Bool} (h : ST w s t n g) (h' : ST w s' t' n f) :
    Calls Try.prog 29 #[.pointer (some ⟨s, 0, none⟩), .pointer (some ⟨s', 0, none⟩)] w fun e w' => (∃ b, e = .returned (.bool b) ∧ (b = true ↔ g = f)) ∧ ∃ j, w' = w.drewN j := by
  have hl : SW n ≤ maxLen := by have := h.len; unfold SW maxLen; omega
  refine (same_heads h.hd h'.hd h.ua h'.ua (wl_length _ _).symm (wl_length _ _).symm (by rw [wl_length]; exact hl) (by rw [wl_length]; exact hl)).mono ?_
  rintro e w' ⟨rfl, hj⟩
  refine ⟨⟨_, rfl, ?_⟩, hj⟩
  simp only [decide_true, Bool.true_and, eqB, decide_eq_true_eq]
  exact ⟨wl_inj h.off h'.off, fun e => by rw [e]⟩

/-- Has, beside other draws; of a set about which it is known. -/
theorem has_at {w : World} {s t n : Nat} {g : Nat → Bool} {b : Bool} (h : ST w s t n g) (j k : Nat) (hk : k < n) (hb : g k = b) :
    Calls Try.prog 18 #[.pointer (some ⟨s, 0, none⟩), .int .i64 k] (w.drewN j) fun e w' => e = .returned (.bool b) ∧ ∃ j', w' = w.drewN j' := by
  refine (has_in (h.drewN j) k hk).mono ?_
  rintro e w' ⟨rfl, j', rfl⟩
  rw [hb]
  exact ⟨rfl, _, World.drewN_drewN _ _ _⟩
end Go.Proofs.Ytcoocchfadbhdaa
