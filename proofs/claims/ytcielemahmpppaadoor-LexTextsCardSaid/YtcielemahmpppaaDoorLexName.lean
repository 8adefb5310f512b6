/- The program's Name. -/
import Derived.Test.YtcielemahmpppaaDoorLexRun
namespace Go.Proofs.YtcielemahmpppaaDoor.lx
open Go.ChangeShapes Go.WideShapes Go.ChangeAt Go.RowKit Go.Deep

def fitB (n lo hi : Int) : Bool := decide (lo ≤ n ∧ n ≤ hi)
theorem fits_any (n lo hi : Int) (w : World) : Calls Tryd.prog 28 #[.int .i64 n, .int .i64 lo, .int .i64 hi] w fun e w' => e = .returned (.bool (fitB n lo hi)) ∧ w = w' := by
  by_cases h1 : lo ≤ n
  · by_cases h2 : n ≤ hi
    · have HE : Hid (fitB n lo hi = true) := Lib.hid (decide_eq_true ⟨h1, h2⟩)
      go_enter Tryd.func28, Tryd.ntmps28
      go_wp2
      go_ret
      exact ⟨by rw [HE.out]; rfl, rfl⟩
    · have HE : Hid (fitB n lo hi = false) := Lib.hid (decide_eq_false (by omega))
      go_enter Tryd.func28, Tryd.ntmps28
      go_wp2
      go_ret
      exact ⟨by rw [HE.out]; rfl, rfl⟩
  · have HE : Hid (fitB n lo hi = false) := Lib.hid (decide_eq_false (by omega))
    go_enter Tryd.func28, Tryd.ntmps28
    go_wp2
    go_ret
    exact ⟨by rw [HE.out]; rfl, rfl⟩

/-- The four words that are no names. -/
def kw1 : List UInt8 := [115, 101, 108, 102]
def kw2 : List UInt8 := [110, 111, 110, 101]
def kw3 : List UInt8 := [108, 101, 110]
def kw4 : List UInt8 := [97, 116]
def kwB (s : ByteArray) : Bool := s.toList == kw1 || s.toList == kw2 || s.toList == kw3 || s.toList == kw4
/-- Is it a name? -/
def nameB (s : ByteArray) : Bool := !kwB s && (decide (1 ≤ s.size ∧ s.size ≤ 16) && decide (stopF okB s s.size 0 = s.size))

set_option maxRecDepth 100000 in
theorem name_any (s : ByteArray) (w : World) : Calls Tryd.prog 17 #[.string s] w fun e w' => e = .returned (.bool (nameB s)) ∧ Below w.heap.size w w' := by
  obtain ⟨b1, h1⟩ : ∃ b1, (s.toList == [115, 101, 108, 102]) = b1 := ⟨_, rfl⟩
  obtain ⟨b2, h2⟩ : ∃ b2, (s.toList == [110, 111, 110, 101]) = b2 := ⟨_, rfl⟩
  obtain ⟨b3, h3⟩ : ∃ b3, (s.toList == [108, 101, 110]) = b3 := ⟨_, rfl⟩
  obtain ⟨b4, h4⟩ : ∃ b4, (s.toList == [97, 116]) = b4 := ⟨_, rfl⟩
  have HK : Hid (kwB s = (b1 || b2 || b3 || b4)) := Lib.hid (by unfold kwB kw1 kw2 kw3 kw4; rw [h1, h2, h3, h4])
  cases b1 with
  | true =>
    have HE : Hid (nameB s = false) := Lib.hid (by unfold nameB; rw [HK.out]; simp)
    rw [HE.out]
    go_enter Tryd.func17, Tryd.ntmps17
    go_wp2
    go_ret
    exact ⟨rfl, Below.refl _ _⟩
  | false =>
  cases b2 with
  | true =>
    have HE : Hid (nameB s = false) := Lib.hid (by unfold nameB; rw [HK.out]; simp)
    rw [HE.out]
    go_enter Tryd.func17, Tryd.ntmps17
    go_wp2
    go_ret
    exact ⟨rfl, Below.refl _ _⟩
  | false =>
  cases b3 with
  | true =>
    have HE : Hid (nameB s = false) := Lib.hid (by unfold nameB; rw [HK.out]; simp)
    rw [HE.out]
    go_enter Tryd.func17, Tryd.ntmps17
    go_wp2
    go_ret
    exact ⟨rfl, Below.refl _ _⟩
  | false =>
  cases b4 with
  | true =>
    have HE : Hid (nameB s = false) := Lib.hid (by unfold nameB; rw [HK.out]; simp)
    rw [HE.out]
    go_enter Tryd.func17, Tryd.ntmps17
    go_wp2
    go_ret
    exact ⟨rfl, Below.refl _ _⟩
  | false =>
    have HE : Hid (nameB s = (decide (1 ≤ s.size ∧ s.size ≤ 16) && decide (stopF okB s s.size 0 = s.size))) := Lib.hid (by unfold nameB; rw [HK.out]; simp)
    cases hf : fitB s.size 1 16 with
    | false =>
      have HF := Lib.hid hf
      have HE2 : Hid (nameB s = false) := Lib.hid (by rw [HE.out, decide_eq_false (by intro h; unfold fitB at hf; have := of_decide_eq_false hf; omega), Bool.false_and])
      clear hf
      go_enter Tryd.func17, Tryd.ntmps17
      go_wp2_with fail
      refine (fits_any _ _ _ _).mono ?_
      rw [HF.out]
      rintro e w' ⟨rfl, rfl⟩
      go_wp2
      go_ret
      exact ⟨by rw [HE2.out]; rfl, Below.refl _ _⟩
    | true =>
      have HF := Lib.hid hf
      have HE2 : Hid (nameB s = decide (stopF okB s s.size 0 = s.size)) := Lib.hid (by rw [HE.out, decide_eq_true (by unfold fitB at hf; have := of_decide_eq_true hf; omega), Bool.true_and])
      clear hf
      obtain ⟨q, HQ⟩ : ∃ q, Hid (stopF okB s s.size 0 = q) := ⟨_, Lib.hid rfl⟩
      have HB : Hid (decide (q = s.size) = ((q : Int) == (s.size : Int))) := Lib.hid (by rw [Bool.eq_iff_iff]; simp; omega)
      go_enter Tryd.func17, Tryd.ntmps17
      go_wp2_with fail
      refine (fits_any _ _ _ _).mono ?_
      rw [HF.out]
      rintro e w' ⟨rfl, rfl⟩
      go_wp2_with fail
      refine (word_any s w).mono ?_
      rw [HQ.out]
      rintro e w' ⟨rfl, hb⟩
      go_wp2
      go_ret
      exact ⟨by rw [HE2.out, HQ.out, HB.out]; rfl, hb⟩
end Go.Proofs.YtcielemahmpppaaDoor.lx
