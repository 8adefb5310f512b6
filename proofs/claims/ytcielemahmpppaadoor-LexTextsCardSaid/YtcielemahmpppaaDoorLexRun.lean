/- The program's run over a text's runes, words, Name; what they tell, plain. -/
import Derived.Test.YtcielemahmpppaaDoorLaw
import Derived.Lib.OthersKept
import Derived.Laws.RangeAny
import Derived.Lib.TrimU
import Derived.Deep.LoopGhost
import Derived.Shelf.Abstract
namespace Go.Proofs.YtcielemahmpppaaDoor.lx
open Go.ChangeShapes Go.WideShapes Go.ChangeAt Go.RowKit Go.Deep

/-- The first place at which p fails, rune by rune. -/
def stopF (p : Nat → Nat → Bool) (s : ByteArray) : Nat → Nat → Nat
  | 0, _ => s.size
  | f + 1, pos => if pos < s.size then (if p pos (Utf8.decode s pos).1 then stopF p s f (pos + (Utf8.decode s pos).2) else pos) else s.size
theorem stopF_end (p : Nat → Nat → Bool) (s : ByteArray) (f pos : Nat) (h : ¬ pos < s.size) : stopF p s f pos = s.size := by
  cases f with
  | zero => rfl
  | succ f => unfold stopF; rw [if_neg h]
theorem stopF_le (p : Nat → Nat → Bool) (s : ByteArray) : ∀ f pos, stopF p s f pos ≤ s.size
  | 0, _ => Nat.le_refl _
  | f + 1, pos => by
    unfold stopF
    split
    · split
      · exact stopF_le p s f _
      · omega
    · exact Nat.le_refl _
/-- A function value that asks of a place and a rune. -/
def AskGrows (g : Nat) (lb : Array Value) (p : Nat → Nat → Bool) (w : World) : Prop :=
  ∀ (W : World) (pos x : Nat), x ≤ 1114111 → Below w.heap.size w W → Calls Tryd.prog g (#[.int .i64 pos, .int .i32 x] ++ lb) W fun e w' => e = .returned (.bool (p pos x)) ∧ Below W.heap.size W w'

set_option maxHeartbeats 2000000 in
set_option maxRecDepth 100000 in
theorem run_any (g : Nat) (lb : Array Value) (eg : ∀ args w, (callFunc g args).run Tryd.prog w = .ok (.enter g args) w) (p : Nat → Nat → Bool) (s : ByteArray) (w : World) (hp : AskGrows g lb p w) :
    Calls Tryd.prog 36 #[.string s, .func (.func g) #[] lb] w fun e w' => e = .returned (.int .i64 (stopF p s s.size 0)) ∧ Below w.heap.size w w' := by
  obtain ⟨RR, HRR⟩ : ∃ RR, Hid (stopF p s s.size 0 = RR) := ⟨_, Lib.hid rfl⟩
  rw [HRR.out]
  go_enter Tryd.func36, Tryd.ntmps36
  go_wp2
  go_loopg [] s.size (fun gf wx => ∃ pos : Nat, wx.heap[w.heap.size]? = some (.stringIter s pos) ∧ Below w.heap.size w wx ∧ Hid (stopF p s gf pos = RR) ∧ s.size ≤ pos + gf)
  case atStart => exact ⟨0, World.iter_heap w s 0, (Below.refl _ w).alloc (Nat.le_refl _) _, HRR, by omega⟩
  case round =>
    obtain ⟨pos, hit, hbw, HL, hfu⟩ := hrel
    by_cases hps : pos < s.size
    · obtain ⟨g', rfl⟩ : ∃ g', gk = g' + 1 := ⟨gk - 1, by omega⟩
      have hnx : ∀ ty, (Instr.next (.pointer (some ⟨w.heap.size, 0, none⟩)) true ty).run Tryd.prog wr = _ := fun ty => Lib.run_next_any_at wr w.heap.size s pos ty hit hps
      have hwd := Lib.width_pos s pos
      obtain ⟨R, hR⟩ : ∃ R, (Utf8.decode s pos).1 = R := ⟨_, rfl⟩
      obtain ⟨K, hK⟩ : ∃ K, (Utf8.decode s pos).2 = K := ⟨_, rfl⟩
      have hleft := HL.out
      simp only [stopF, hps, if_true, hR, hK] at hleft
      rw [hR, hK] at hnx
      rw [hK] at hwd
      have hit2 := Lib.iterAt_heap wr w.heap.size s pos (pos + K) hit
      have hbw2 := Lib.below_iterAt hbw (k := w.heap.size) (Nat.le_refl _) s (pos + K)
      obtain ⟨W, hWd⟩ : ∃ W, wr.iterAt w.heap.size s (pos + K) = W := ⟨_, rfl⟩
      rw [hWd] at hnx hit2 hbw2
      have hltW : w.heap.size < W.heap.size := (Array.getElem?_eq_some_iff.1 hit2).1
      have cS : Calls Tryd.prog g (#[.int .i64 pos, .int .i32 (R : Int)] ++ lb) W _ := hp W pos R (by rw [← hR]; exact Lib.rune_le s pos) hbw2
      clear hp HL
      cases hsp : p pos R <;> rw [hsp] at cS <;> simp only [hsp, if_true, Bool.false_eq_true, if_false] at hleft
      · have HLE := Lib.hid hleft
        clear hleft
        go_wp2_with fail
        refine cS.mono ?_
        rintro e W' ⟨rfl, hbc⟩
        go_wp2
        go_ret
        exact ⟨by rw [← HLE.out]; rfl, (hbw2.trans (hbc.mono hbw2.size))⟩
      · have HLE := Lib.hid hleft
        clear hleft
        go_wp2_with fail
        refine cS.mono ?_
        rintro e W' ⟨rfl, hbc⟩
        go_wp2
        go_roundg g'
        case measure => omega
        case rel => exact ⟨pos + K, (hbc.block _ hltW).trans hit2, (hbw2.trans (hbc.mono hbw2.size)), HLE, by omega⟩
    · have hnx : ∀ ty, (Instr.next (.pointer (some ⟨w.heap.size, 0, none⟩)) true ty).run Tryd.prog wr = _ := fun ty => Lib.run_next_end_at wr w.heap.size s pos ty hit hps
      have HLE : Hid (s.size = RR) := Lib.hid ((stopF_end p s gk pos hps).symm.trans HL.out)
      clear HL
      go_wp2
      go_ret
      exact ⟨by rw [← HLE.out]; rfl, hbw⟩

def letB (r : Int) : Bool := decide (97 ≤ r ∧ r ≤ 122 ∨ 65 ≤ r ∧ r ≤ 90)
def digB (r : Int) : Bool := decide (48 ≤ r ∧ r ≤ 57)
theorem isLetter_any (r : Int) (w : World) : Calls Tryd.prog 48 #[.int .i32 r] w fun e w' => e = .returned (.bool (letB r)) ∧ w = w' := by
  by_cases h1 : 97 ≤ r
  · by_cases h2 : r ≤ 122
    · have HE : Hid (letB r = true) := Lib.hid (decide_eq_true (by omega))
      go_enter Tryd.func48, Tryd.ntmps48
      go_wp2
      go_ret
      exact ⟨by rw [HE.out]; rfl, rfl⟩
    · have HE : Hid (letB r = false) := Lib.hid (decide_eq_false (by omega))
      have h3 : 65 ≤ r := by omega
      have h4 : ¬ r ≤ 90 := by omega
      go_enter Tryd.func48, Tryd.ntmps48
      go_wp2
      go_ret
      exact ⟨by rw [HE.out]; rfl, rfl⟩
  · by_cases h2 : 65 ≤ r
    · by_cases h3 : r ≤ 90
      · have HE : Hid (letB r = true) := Lib.hid (decide_eq_true (by omega))
        go_enter Tryd.func48, Tryd.ntmps48
        go_wp2
        go_ret
        exact ⟨by rw [HE.out]; rfl, rfl⟩
      · have HE : Hid (letB r = false) := Lib.hid (decide_eq_false (by omega))
        go_enter Tryd.func48, Tryd.ntmps48
        go_wp2
        go_ret
        exact ⟨by rw [HE.out]; rfl, rfl⟩
    · have HE : Hid (letB r = false) := Lib.hid (decide_eq_false (by omega))
      go_enter Tryd.func48, Tryd.ntmps48
      go_wp2
      go_ret
      exact ⟨by rw [HE.out]; rfl, rfl⟩
theorem isDigit_any (r : Int) (w : World) : Calls Tryd.prog 49 #[.int .i32 r] w fun e w' => e = .returned (.bool (digB r)) ∧ w = w' := by
  by_cases h1 : 48 ≤ r
  · by_cases h2 : r ≤ 57
    · have HE : Hid (digB r = true) := Lib.hid (decide_eq_true (by omega))
      go_enter Tryd.func49, Tryd.ntmps49
      go_wp2
      go_ret
      exact ⟨by rw [HE.out]; rfl, rfl⟩
    · have HE : Hid (digB r = false) := Lib.hid (decide_eq_false (by omega))
      go_enter Tryd.func49, Tryd.ntmps49
      go_wp2
      go_ret
      exact ⟨by rw [HE.out]; rfl, rfl⟩
  · have HE : Hid (digB r = false) := Lib.hid (decide_eq_false (by omega))
    go_enter Tryd.func49, Tryd.ntmps49
    go_wp2
    go_ret
    exact ⟨by rw [HE.out]; rfl, rfl⟩
/-- May a rune stand at a place of a word? -/
def okB (pos r : Nat) : Bool := letB r || (decide (0 < pos) && (digB r || decide (r = 95)))
set_option maxRecDepth 100000 in
theorem word1_any (pos r : Nat) (w : World) (hr : r ≤ 1114111) : Calls Tryd.prog 47 #[.int .i64 pos, .int .i32 r] w fun e w' => e = .returned (.bool (okB pos r)) ∧ Below w.heap.size w w' := by
  cases hl : letB r with
  | true =>
    have HL := Lib.hid hl
    have HE : Hid (okB pos r = true) := Lib.hid (by unfold okB; rw [hl, Bool.true_or])
    clear hl
    go_enter Tryd.func47, Tryd.ntmps47
    go_wp2_with fail
    refine (isLetter_any _ _).mono ?_
    rw [HL.out]
    rintro e w' ⟨rfl, rfl⟩
    go_wp2
    go_ret
    exact ⟨by rw [HE.out]; rfl, Below.refl _ _⟩
  | false =>
    have HL := Lib.hid hl
    have HE : Hid (okB pos r = (decide (0 < pos) && (digB r || decide (r = 95)))) := Lib.hid (by unfold okB; rw [hl, Bool.false_or])
    clear hl
    by_cases h0 : pos = 0
    · subst h0
      have HE2 : Hid (okB 0 r = false) := Lib.hid (by rw [HE.out]; simp)
      go_enter Tryd.func47, Tryd.ntmps47
      go_wp2_with fail
      refine (isLetter_any _ _).mono ?_
      rw [HL.out]
      rintro e w' ⟨rfl, rfl⟩
      go_wp2
      go_ret
      exact ⟨by rw [HE2.out]; rfl, Below.refl _ _⟩
    · have hp0 : (0 : Int) < (pos : Int) := by omega
      have HE2 : Hid (okB pos r = (digB r || decide (r = 95))) := Lib.hid (by rw [HE.out, decide_eq_true (show 0 < pos by omega), Bool.true_and])
      cases hd : digB r with
      | true =>
        have HD := Lib.hid hd
        have HE3 : Hid (okB pos r = true) := Lib.hid (by rw [HE2.out, hd, Bool.true_or])
        clear hd
        go_enter Tryd.func47, Tryd.ntmps47
        go_wp2_with fail
        refine (isLetter_any _ _).mono ?_
        rw [HL.out]
        rintro e w' ⟨rfl, rfl⟩
        go_wp2_with fail
        refine (isDigit_any _ _).mono ?_
        rw [HD.out]
        rintro e w' ⟨rfl, rfl⟩
        go_wp2
        go_ret
        exact ⟨by rw [HE3.out]; rfl, Below.refl _ _⟩
      | false =>
        have HD := Lib.hid hd
        have HE3 : Hid (okB pos r = ((r : Int) == 95)) := Lib.hid (by rw [HE2.out, hd, Bool.false_or]; rw [Bool.eq_iff_iff]; simp; omega)
        clear hd
        go_enter Tryd.func47, Tryd.ntmps47
        go_wp2_with fail
        refine (isLetter_any _ _).mono ?_
        rw [HL.out]
        rintro e w' ⟨rfl, rfl⟩
        go_wp2_with fail
        refine (isDigit_any _ _).mono ?_
        rw [HD.out]
        rintro e w' ⟨rfl, rfl⟩
        go_wp2
        go_ret
        exact ⟨by rw [HE3.out]; rfl, Below.refl _ _⟩
set_option maxRecDepth 100000 in
theorem word_any (s : ByteArray) (w : World) : Calls Tryd.prog 29 #[.string s] w fun e w' => e = .returned (.int .i64 (stopF okB s s.size 0)) ∧ Below w.heap.size w w' := by
  have hg : AskGrows 47 #[] okB w := fun W pos x hx _ => by
    have := word1_any pos x W hx
    simpa using this
  go_enter Tryd.func29, Tryd.ntmps29
  go_wp2_with fail
  refine (run_any 47 #[] (enters_of Tryd.func47 (by kernel_rfl) rfl) okB s w hg).mono ?_
  rintro e w' ⟨rfl, hb⟩
  go_wp2
  go_ret
  exact ⟨rfl, hb⟩
end Go.Proofs.YtcielemahmpppaaDoor.lx
