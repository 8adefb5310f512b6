/- Contract of package chans: held. -/
import Derived.Test.YtmebajighiedaaaCh
namespace Go.Proofs.Ytmebajighiedaaa.ch
open Go.ChangeShapes Go.WideShapes Go.ChangeAt Go.RowKit

/-- What held leaves. -/
def HeldP (w : World) (l : List Int) (e : Ending) (w' : World) : Prop :=
  ∃ A' k, e = .returned (.tuple #[.slice A' k k, .bool (isC l)]) ∧ k = (itemsF l).length ∧ IA w' A' (itemsF l) ∧ Below w.heap.size w w' ∧ ∀ a, A' = some a → a.block < w.heap.size ∨ k = 0
set_option maxRecDepth 20000 in
theorem mid_run (A : Option Addr) (m c k e : Nat) (he : e = k + 1) (h : k + 1 ≤ m) (hc : m ≤ c) : ∃ B, B = (if k = 0 then A else A.map (·.add 1)) ∧ ∀ W, (Instr.sliceAt 22 (.slice A m c) (some (.int .i64 1)) (some (.int .i64 (e : Int))) (some (.int .i64 (e : Int)))).run Try.prog W = .ok (.slice B k k) W := by
  subst he
  refine ⟨_, rfl, fun W => ?_⟩
  have hsz : (sizeOf (Try.prog.elem 22)).run Try.prog W = .ok 1 W := by simp [go_sem]
  rw [run_sliceAt_slice (P := Try.prog) W 22 _ _ _ _ Try.underlying22, run_slice_lhm (P := Try.prog) W 22 A m c Try.underlying22 .i64 .i64 .i64 1 ((k + 1 : Nat) : Int) ((k + 1 : Nat) : Int) (by omega) (by omega) (by omega) (by omega), hsz]
  simp [Result.andThen, sliced]
set_option maxRecDepth 20000 in
set_option maxHeartbeats 2000000 in
theorem held_any (A : Option Addr) (c m : Nat) (l : List Int) (w : World) (hm : m = l.length) (hA : IA w A l) (hmc : m ≤ c) (hcm : c ≤ maxLen) :
    Calls Try.prog 20 #[.slice A m c] w (HeldP w l) := by
  have HM := Lib.hid hm
  have HA := Lib.hid hA
  have HCM := Lib.hid hcm
  have hmm : m ≤ maxLen := Nat.le_trans hmc hcm
  have HMM := Lib.hid hmm
  unfold maxLen at hcm hmm
  clear hm hA
  have no : ∀ (w' : World), isC l = false → Below w.heap.size w w' → HeldP w l (.returned (.tuple #[.slice none 0 0, .bool false])) w' := fun w' h hb => ⟨none, 0, by rw [h], by rw [items_no h]; rfl, by rw [items_no h]; exact IA.nil _ _, hb, fun a e => by cases e⟩
  have NO := Lib.hid no
  clear no
  by_cases h0 : m = 0
  · subst h0
    have HI : Hid (isC l = false) := Lib.hid (isC_no (fun h => by have := HM.out; omega))
    go_enter Try.func20, Try.ntmps20
    go_wp2
    go_quiet (fail)
    go_wp2
    go_ret2
    exact NO.out _ HI.out (below_drewN (Below.refl _ _) _)
  · obtain ⟨b, o, rfl, hb, hcc⟩ := HA.out (by rw [← HM.out]; omega)
    have c1 : w.cell? ⟨b, o, none⟩ = some (.int .i64 (l.getD 0 0)) := hcc 0 (by rw [← HM.out]; omega)
    clear hcc
    have hpos : 0 < m := by omega
    have hz0 : ((m : Int) == 0) = false := by simp; omega
    by_cases hf : 0 ≤ l.getD 0 0 ∧ l.getD 0 0 ≤ (m : Int) - 1
    · obtain ⟨k, hk⟩ : ∃ k : Nat, l.getD 0 0 = (k : Int) := ⟨(l.getD 0 0).toNat, by omega⟩
      have HKN : Hid (kN l = k) := Lib.hid (by unfold kN; rw [hk]; simp)
      rw [hk] at c1 hf
      obtain ⟨t, ht⟩ : ∃ t, m = (k + 1) + t := ⟨m - (k + 1), by omega⟩
      obtain ⟨s, hs⟩ : ∃ s, s = k + 1 := ⟨_, rfl⟩
      have hsi : (1 : Int) + (k : Int) = (s : Int) := by omega
      have hst : m = s + t := by omega
      have hsl : s ≤ m := by omega
      have hk1 : k + 1 ≤ m := by omega
      have HF : Hid (fitB (k : Int) 0 ((m : Int) - 1) = true) := Lib.hid (decide_eq_true hf)
      have HX := Lib.hid hk
      have HST := Lib.hid hst
      have HS := Lib.hid hs
      have HHF := Lib.hid hf
      obtain ⟨B2, hB2, q2⟩ := tail_run (some ⟨b, o, none⟩) s t c
      rw [← hst] at q2
      have HIA : Hid (∀ W, Below w.heap.size w W → IA W B2 (l.drop s)) := Lib.hid (fun W hW => by
        rw [hB2]; exact tail_ia (HA.out.below hW) (by rw [← HM.out]; exact hmc))
      obtain ⟨B3, hB3, q3⟩ := mid_run (some ⟨b, o, none⟩) m c k s hs hk1 hmc
      have HB3 := Lib.hid hB3
      have hto : (t : Int) ≤ (m : Int) := by omega
      have htm : Hid (t = (l.drop s).length ∧ t ≤ maxLen) := Lib.hid ⟨by simp; have := HM.out; omega, by unfold maxLen; omega⟩
      have hs1 : (1 : Int) ≤ (s : Int) := by omega
      have hsm : (s : Int) ≤ (m : Int) := by omega
      have hsw : (s : Int) ≤ 9223372036854775807 := by omega
      clear hf ht hs hst hB2 hB3 hk
      go_enter Try.func20, Try.ntmps20
      go_wp2
      go_region_held3 (fun w' => w'.cell? ⟨b, o, none⟩ = some (.int .i64 k)) (first | exact c1 | go_keep)
        (first | (go_at_call 23; refine (room_any _ m c _ HMM.out).mono ?_; rintro e w' ⟨rfl, rfl⟩) | (go_at_call 29; refine (fits_any _ _ _ _).mono ?_; rw [HF.out]; rintro e w' ⟨rfl, rfl⟩) | fail)
      have Q3 := Lib.hid q3
      have c2 : w.drew.cell? ⟨b, o, none⟩ = some (.int .i64 k) := by assumption
      clear c1 q3
      go_wp2_with fail
      refine (contains_any 30 #[] (fun v => decide (v ≠ 0)) B2 t (c - s) (l.drop s) w.drew htm.out.1 htm.out.2 (HIA.out _ (Below.refl _ _).drew) (enters_of Try.func30 (by kernel_rfl) rfl) (fun z W _ => (notZero_any z W).mono (by rintro e w' ⟨rfl, rfl⟩; exact ⟨rfl, Below.refl _ _⟩))).mono ?_
      rintro e w2 ⟨rfl, hb2⟩
      have HB2 : Hid (Below w.heap.size w w2) := Lib.hid (((Below.refl _ w).drew).trans hb2)
      clear hb2 c2 q2 HIA
      obtain ⟨q, HQ⟩ : ∃ q, Hid (((l.drop s).any fun v => decide (v ≠ 0)) = q) := ⟨_, Lib.hid rfl⟩
      rw [HQ.out]
      cases q with
      | true =>
        have HI : Hid (isC l = false) := Lib.hid (isC_no (fun h => by
          have h4 := h.2.2.2
          rw [HKN.out, ← HS.out, HQ.out] at h4
          cases h4))
        go_wp2
        go_ret2
        exact NO.out _ HI.out HB2.out
      | false =>
        have HI : Hid (isC l = true) := Lib.hid (isC_iff.2 ⟨by rw [← HM.out]; exact hpos, by rw [HX.out]; exact HHF.out.1, by rw [HX.out]; have := HHF.out.2; have := HM.out; omega, by rw [HKN.out, ← HS.out]; exact HQ.out⟩)
        have q3 := Q3.out
        go_wp2
        go_ret2
        refine ⟨B3, k, by rw [HI.out]; rfl, by rw [items_length HI.out, HKN.out], ?_, HB2.out, fun a e => ?_⟩
        · intro h0
          rw [items_length HI.out, HKN.out] at h0
          obtain ⟨b', o', e, hb', hcc⟩ := (HA.out.below HB2.out) (by rw [← HM.out]; exact hpos)
          injection e with e
          injection e with e1 e2
          subst e1 e2
          refine ⟨b, o + 1, by rw [HB3.out, if_neg (by omega)]; rfl, hb', fun i hi => ?_⟩
          rw [items_length HI.out, HKN.out] at hi
          rw [items_getD HI.out (by rw [HKN.out]; exact hi), show o + 1 + i = o + (1 + i) by omega]
          exact hcc (1 + i) (by rw [← HM.out]; omega)
        · left
          rw [HB3.out] at e
          split at e
          · injection e with e; subst e; exact hb
          · injection e with e; subst e; exact hb
    · have HI : Hid (isC l = false) := Lib.hid (isC_no (fun h => hf ⟨h.2.1, by have := h.2.2.1; have := HM.out; omega⟩))
      have HF : Hid (fitB (l.getD 0 0) 0 ((m : Int) - 1) = false) := Lib.hid (decide_eq_false hf)
      clear hf
      generalize l.getD 0 0 = x at c1 HF
      go_enter Try.func20, Try.ntmps20
      go_wp2
      go_region_held3 (fun w' => w'.cell? ⟨b, o, none⟩ = some (.int .i64 x)) (first | exact c1 | go_keep)
        (first | (go_at_call 23; refine (room_any _ m c _ HMM.out).mono ?_; rintro e w' ⟨rfl, rfl⟩) | (go_at_call 29; refine (fits_any _ _ _ _).mono ?_; rw [HF.out]; rintro e w' ⟨rfl, rfl⟩) | fail)
      go_wp2
      go_ret2
      exact NO.out _ HI.out ((Below.refl _ _).drew)
end Go.Proofs.Ytmebajighiedaaa.ch
