/- Contracts of package ring: Push, Last. -/
import Derived.Test.YtfhapodidjkmaaaRingPut
namespace Go.Proofs.Ytfhapodidjkmaaa
open Go.ChangeShapes Go.WideShapes Go.ChangeAt Go.RowKit

theorem last_none {w : World} {s : Nat} {t : Option Nat} {most : Nat} (h : QU w s t most ([] : List Int)) :
    Calls Try.prog 24 #[.pointer (some ⟨s, 0, none⟩)] w fun e w' => e = .returned (.tuple #[(.int .i64 (0 : Int)), .bool false]) ∧ w = w' := by
  obtain ⟨L, f, g, h, _⟩ := h
  have HP := Lib.hid h
  clear h
  go_enter Try.func24, Try.ntmps24
  go_wp2_with fail
  refine (len_any HP.out).mono ?_
  rintro e w1 ⟨rfl, rfl⟩
  rw [List.length_nil]
  go_wp2_with fail
  go_ret2
  exact ⟨rfl, rfl⟩
theorem last_nil (w : World) : Calls Try.prog 24 #[.pointer none] w fun e w' => e = .returned (.tuple #[(.int .i64 (0 : Int)), .bool false]) ∧ w = w' := by
  go_enter Try.func24, Try.ntmps24
  go_wp2_with fail
  refine (len_nil w).mono ?_
  rintro e w1 ⟨rfl, rfl⟩
  go_wp2_with fail
  go_ret2
  exact ⟨rfl, rfl⟩
theorem last_end {w w1 : World} {s b : Nat} {most L f : Nat} {g : Nat → Value} {x : Int} {l : List Int} (hQ : QP w1 s (some b) most L f (l.length + 1) (setG g ((f + l.length) % L) (.int .i64 (0 : Int)))) (hg : ∀ i, i < (l ++ [x]).length → g ((f + i) % L) = (.int .i64 ((l ++ [x]).getD i (0 : Int)))) (hT : Turns w w1 s (some b)) :
    Gone w s (some b) most x l (.returned (.tuple #[(.int .i64 x), .bool true])) (w1.setCell ⟨s, 3, none⟩ (.int .i64 ((l.length : Nat) : Int))) := by
  have hr := hQ.room
  have hf := hQ.fl (by omega)
  refine ⟨rfl, ⟨L, f, setG g ((f + l.length) % L) (.int .i64 (0 : Int)), hQ.count l.length (by omega), fun i hi => ?_⟩, ?_⟩
  · unfold setG
    rw [if_neg (fun h => by have := md_inj hf (by omega) (by omega) h; omega), hg i (by simp; omega)]
    simp [List.getD, List.getElem?_append_left hi]
  · exact hT.trans (Turns.set w1 0 s (some b) ⟨s, 3, none⟩ (.int .i64 ((l.length : Nat) : Int)) (.inl rfl)) (.inl rfl)
set_option maxHeartbeats 1000000 in
theorem last_some {w : World} {s : Nat} {t : Option Nat} {most : Nat} {x : Int} {l : List Int} (h : QU w s t most (l ++ [x])) :
    Calls Try.prog 24 #[.pointer (some ⟨s, 0, none⟩)] w (Gone w s t most x l) := by
  obtain ⟨L, f, g, h, hg⟩ := h
  have hr := h.room
  rw [List.length_append] at h hr
  have hlm := h.lm
  have hmm := h.mm
  obtain ⟨b, rfl⟩ : ∃ b, t = some b := by
    cases t with
    | none => have := h.non rfl; simp at hr; omega
    | some b => exact ⟨b, rfl⟩
  have HP : Hid (QP w s (some b) most L f (l.length + 1) g) := Lib.hid h
  have HG := Lib.hid hg
  have HG0 : Hid (g ((f + l.length) % L) = (.int .i64 x)) := Lib.hid (by rw [hg l.length (by simp)]; simp [List.getD])
  obtain ⟨k, HK⟩ : ∃ k, Hid (l.length = k) := ⟨_, Lib.hid rfl⟩
  have hr2 : k + 1 ≤ L := by rw [← HK.out]; exact hr
  rw [HK.out] at HP HG0
  clear h hg hr
  go_enter Try.func24, Try.ntmps24
  go_wp2_with fail
  refine (len_any HP.out).mono ?_
  rintro e w1 ⟨rfl, rfl⟩
  have hk0 : (((k + 1 : Nat) : Int) == 0) = false := by simp; omega
  have c0 : w.cell? ⟨s, 3, none⟩ = some (.int .i64 ((k + 1 : Nat) : Int)) := HP.out.head.cell (i := 3) (by omega)
  have hkk : ((k + 1 : Nat) : Int) - 1 = (k : Int) := by omega
  go_wp2_with fail
  refine (lift_any HP.out k (by omega) x HG0.out).mono ?_
  rintro e w2 ⟨rfl, hQ, hT, hz⟩
  have HQ := Lib.hid hQ
  have HE : Hid (Gone w s (some b) most x l (.returned (.tuple #[(.int .i64 x), .bool true])) (w2.setCell ⟨s, 3, none⟩ (.int .i64 (k : Int)))) := Lib.hid (by
    have := last_end (x := x) (l := l) (by rw [HK.out]; exact hQ) HG.out hT
    rw [HK.out] at this
    exact this)
  clear hQ hT hz HP c0
  have c3 : w2.cell? ⟨s, 3, none⟩ = some (.int .i64 ((k + 1 : Nat) : Int)) := HQ.out.head.cell (i := 3) (by omega)
  have f3 : w2.frozen? ⟨s, 3, none⟩ = false := HQ.out.head.frozen _
  go_wp2
  go_ret2
  exact HE.out

theorem push_no {w : World} {s : Nat} {t : Option Nat} {most : Nat} {l : List Int} (h : QU w s t most l) (x : Int) (hm : l.length = most) :
    Calls Try.prog 20 #[.pointer (some ⟨s, 0, none⟩), (.int .i64 x)] w fun e w' => e = .returned (.bool false) ∧ ∃ j, w' = w.drewN j := by
  obtain ⟨L0, f0, g0, h0, _⟩ := h
  have HP := Lib.hid h0
  have HF : Hid (decide (l.length = most) = true) := Lib.hid (by simpa using hm)
  clear h0 hm
  go_enter Try.func20, Try.ntmps20
  go_wp2_with fail
  refine (full_any HP.out).mono ?_
  rintro e w1 ⟨rfl, j, rfl⟩
  rw [HF.out]
  go_wp2_with fail
  go_ret
  exact ⟨rfl, j, rfl⟩
theorem push_nil (x : Int) (w : World) : Calls Try.prog 20 #[.pointer none, (.int .i64 x)] w fun e w' => e = .returned (.bool false) ∧ ∃ j, w' = w.drewN j := by
  go_enter Try.func20, Try.ntmps20
  go_wp2_with fail
  refine (full_nil w).mono ?_
  rintro e w1 ⟨rfl, j, rfl⟩
  go_wp2_with fail
  go_ret
  exact ⟨rfl, j, rfl⟩

theorem push_end {w w2 : World} {s b : Nat} {t : Option Nat} {most L f k : Nat} {g : Nat → Value} {l : List Int} (hQ : QP w2 s (some b) most L f k g) (hk : l.length = k) (hkL : k < L) (hg : ∀ i, i < l.length → g ((f + i) % L) = (.int .i64 (l.getD i (0 : Int)))) (hT : Turns w w2 s t) (hN : Newer w t (some b)) (x : Int) (j n : Nat) :
    Laid w s t most (x :: l) (.returned (.bool true)) (((((w2.drewN j).setCell ⟨s, 2, none⟩ (.int .i64 (((f + (L - 1)) % L : Nat) : Int))).drewN n).setCell ⟨b, (f + (L - 1)) % L, none⟩ (.int .i64 x)).setCell ⟨s, 3, none⟩ (.int .i64 ((k : Int) + 1))) := by
  have hf := hQ.fl (by omega)
  have ha : (f + (L - 1)) % L < L := md_lt (by omega)
  have hstep : ∀ i, i < L → ((f + (L - 1)) % L + (i + 1)) % L = (f + i) % L := fun i hi => by
    rw [Nat.mod_add_mod, show f + (L - 1) + (i + 1) = f + i + L by omega, Nat.add_mod_right]
  refine ⟨rfl, some b, ⟨L, (f + (L - 1)) % L, setG g ((f + (L - 1)) % L) (.int .i64 x), ?_, fun i hi => ?_⟩, ?_, hN⟩
  · have := ((((hQ.drewN j).first _ ha).drewN n).put ((f + (L - 1)) % L) (.int .i64 x)).count (k + 1) (by omega)
    rw [List.length_cons, hk]
    exact this
  · rw [List.length_cons, hk] at hi
    cases i with
    | zero =>
      unfold setG
      rw [Nat.add_zero, Nat.mod_eq_of_lt ha, if_pos rfl]
      rfl
    | succ i =>
      rw [hstep i (by omega)]
      unfold setG
      rw [if_neg (fun h => by have := md_inj hf (by omega) (by omega) h; omega), hg i (by omega)]
      simp [List.getD]
  · have h0 := Turns.set w2 j s (some b) ⟨s, 2, none⟩ (.int .i64 (((f + (L - 1)) % L : Nat) : Int)) (.inl rfl)
    have h1 := Turns.set ((w2.drewN j).setCell ⟨s, 2, none⟩ (.int .i64 (((f + (L - 1)) % L : Nat) : Int))) n s (some b) ⟨b, (f + (L - 1)) % L, none⟩ (.int .i64 x) (.inr rfl)
    have h2 := Turns.set ((((w2.drewN j).setCell ⟨s, 2, none⟩ (.int .i64 (((f + (L - 1)) % L : Nat) : Int))).drewN n).setCell ⟨b, (f + (L - 1)) % L, none⟩ (.int .i64 x)) 0 s (some b) ⟨s, 3, none⟩ (.int .i64 ((k : Int) + 1)) (.inl rfl)
    exact hT.trans ((h0.trans h1 (.inl rfl)).trans h2 (.inl rfl)) hN

set_option maxHeartbeats 1000000 in
theorem push_yes {w : World} {s : Nat} {t : Option Nat} {most : Nat} {l : List Int} (h : QU w s t most l) (x : Int) (hm : l.length < most) :
    Calls Try.prog 20 #[.pointer (some ⟨s, 0, none⟩), (.int .i64 x)] w (Laid w s t most (x :: l)) := by
  have H := Lib.hid h
  obtain ⟨L0, f0, g0, h0, _⟩ := h
  have HP := Lib.hid h0
  have hmm := h0.mm
  have HF : Hid (decide (l.length = most) = false) := Lib.hid (by simp; omega)
  clear h0
  go_enter Try.func20, Try.ntmps20
  go_wp2_with fail
  refine (full_any HP.out).mono ?_
  rintro e w1 ⟨rfl, j, rfl⟩
  rw [HF.out]
  have H1 : Hid (QU (w.drewN j) s t most l) := Lib.hid (H.out.of_blocks rfl (fun _ _ => rfl))
  go_wp2_with fail
  refine (widen_any H1.out hm).mono ?_
  rintro e w2 ⟨⟨v, rfl⟩, t', hR, hT, hN⟩
  obtain ⟨b, L, f, g, rfl, hk, hQ, hg⟩ := hR
  have HQ := Lib.hid hQ
  have HG := Lib.hid hg
  have HT : Hid (Turns w w2 s t) := Lib.hid ((Turns.drewN w j s t).trans hT (.inl rfl))
  have HN : Hid (Newer w t (some b)) := Lib.hid hN
  have hL1 := hQ.lm
  have hfl := hQ.fl (by omega)
  clear hQ hg hT hN H H1 HP HF
  obtain ⟨k, HK⟩ : ∃ k, Hid (l.length = k) := ⟨_, Lib.hid rfl⟩
  have HE : Hid (∀ j n, Laid w s t most (x :: l) (.returned (.bool true)) (((((w2.drewN j).setCell ⟨s, 2, none⟩ (.int .i64 (((f + (L - 1)) % L : Nat) : Int))).drewN n).setCell ⟨b, (f + (L - 1)) % L, none⟩ (.int .i64 x)).setCell ⟨s, 3, none⟩ (.int .i64 ((k : Int) + 1)))) := Lib.hid (fun j n => push_end (by rw [← HK.out]; exact HQ.out) HK.out (by rw [← HK.out]; exact hk) HG.out HT.out HN.out x j n)
  rw [HK.out] at hk hm HQ
  have c1 : w2.cell? ⟨s, 1, none⟩ = some (.slice (some ⟨b, 0, none⟩) L L) := HQ.out.head.cell (i := 1) (by omega)
  have hL2 : (L : Int) - 1 = ((L - 1 : Nat) : Int) := by omega
  clear HG HT HN HK
  go_wp2_with fail
  clear hL2
  refine (place_any HQ.out (L - 1) (by omega) (by omega)).mono ?_
  rintro e w3 ⟨rfl, jj, rfl⟩
  have ha : (f + (L - 1)) % L < L := md_lt (by omega)
  generalize (f + (L - 1)) % L = a at *
  clear c1
  have c1 : (w2.drewN jj).cell? ⟨s, 1, none⟩ = some (.slice (some ⟨b, 0, none⟩) L L) := HQ.out.head.cell (i := 1) (by omega)
  have c2 : (w2.drewN jj).cell? ⟨s, 2, none⟩ = some (.int .i64 f) := HQ.out.head.cell (i := 2) (by omega)
  have f2 : (w2.drewN jj).frozen? ⟨s, 2, none⟩ = false := HQ.out.head.frozen _
  have c3 : (w2.drewN jj).cell? ⟨s, 3, none⟩ = some (.int .i64 k) := HQ.out.head.cell (i := 3) (by omega)
  have f3 : (w2.drewN jj).frozen? ⟨s, 3, none⟩ = false := HQ.out.head.frozen _
  have c4 : (w2.drewN jj).cell? ⟨b, a, none⟩ = some (g a) := (HQ.out.row b rfl).cell ha
  have f4 : (w2.drewN jj).frozen? ⟨b, a, none⟩ = false := (HQ.out.row b rfl).frozen _
  have hsb : s ≠ b := HQ.out.ne
  have hsb2 : b ≠ s := fun e => hsb e.symm
  generalize g a = ga at c4
  go_wp2
  go_region
  all_goals
    go_wp2
    go_ret
    exact HE.out _ _
end Go.Proofs.Ytfhapodidjkmaaa
