/- Contracts of package ring: New, Put, Push, Take, Last. -/
import Derived.Test.YtfhapodidjkmaaaRingWide
namespace Go.Proofs.Ytfhapodidjkmaaa
open Go.ChangeShapes Go.WideShapes Go.ChangeAt Go.RowKit

theorem widen_any {w : World} {s : Nat} {t : Option Nat} {most : Nat} {l : List Int} (h : QU w s t most l) (hm : l.length < most) :
    Calls Try.prog 56 #[.pointer (some ⟨s, 0, none⟩)] w fun e w' => (∃ v, e = .returned v) ∧ ∃ t', Roomy w' s t' most l ∧ Turns w w' s t ∧ Newer w t t' := by
  obtain ⟨L, f, g, h, hg⟩ := h
  by_cases hk : l.length < L
  · refine (widen_no h hk).mono ?_
    rintro e w' ⟨hv, j, rfl⟩
    cases t with
    | none => have := h.non rfl; omega
    | some b => exact ⟨hv, some b, ⟨b, L, f, g, rfl, hk, h.drewN j, hg⟩, Turns.drewN _ _ _ _, .inl rfl⟩
  · exact widen_yes h hg (by have := h.room; omega) hm

def mostOf (m : Int) : Nat := min m.toNat 65536
def NewQ (w : World) (n : Nat) (e : Ending) (w' : World) : Prop := ∃ s, e = .returned (.pointer (some ⟨s, 0, none⟩)) ∧ s = w.heap.size ∧ QU w' s none n ([] : List Int) ∧ Below w.heap.size w w' ∧ w'.heap.size = w.heap.size + 1
theorem newQ (w : World) (n : Nat) (z : Int) (hn : n ≤ 65536) (hz : z = (n : Int)) : NewQ w n (.returned (.pointer (some ⟨w.heap.size, 0, none⟩))) (w.alloc (.cells #[.int .i64 z, .slice none 0 0, .int .i64 0, .int .i64 0] 44)) := by
  subst hz
  refine ⟨_, rfl, rfl, ⟨0, 0, fun _ => undef, ⟨?_, (fun b e => by cases e), fun _ => rfl, fun e => absurd rfl e, Nat.le_refl _, Nat.zero_le _, hn, fun _ => rfl, fun e => absurd e (by omega)⟩, fun i hi => absurd hi (by simp)⟩, (Below.refl _ _).alloc (Nat.le_refl _) _, by simp⟩
  exact World.rowIs_alloc w _ _ (headQ n (at0 none) 0 0 0) (fun i hi => by
    have hi4 : i < 4 := hi
    match i, hi4 with
    | 0, _ | 1, _ | 2, _ | 3, _ => rfl)
theorem new_any (m : Int) (w : World) : Calls Try.prog 16 #[.int .i64 m] w (NewQ w (mostOf m)) := by
  have HM : Hid ((m < 0 → 0 = (mostOf m : Int)) ∧ (65536 < m → 65536 = (mostOf m : Int)) ∧ (0 ≤ m → m ≤ 65536 → m = (mostOf m : Int)) ∧ mostOf m ≤ 65536) := Lib.hid (by unfold mostOf; omega)
  go_enter Try.func16, Try.ntmps16
  go_wp2
  all_goals
    go_ret
    refine newQ w _ _ HM.out.2.2.2 ?_
    first | exact HM.out.1 (by assumption) | exact HM.out.2.1 (by assumption) | exact HM.out.2.2.1 (by assumption) (by assumption)

/-- What a call that lays one more leaves. -/
def Laid (w : World) (s : Nat) (t : Option Nat) (most : Nat) (l : List Int) (e : Ending) (w' : World) : Prop := e = .returned (.bool true) ∧ ∃ t', QU w' s t' most l ∧ Turns w w' s t ∧ Newer w t t'

theorem put_end {w w2 : World} {s b : Nat} {t : Option Nat} {most L f k : Nat} {g : Nat → Value} {l : List Int} (hQ : QP w2 s (some b) most L f k g) (hk : l.length = k) (hkL : k < L) (hg : ∀ i, i < l.length → g ((f + i) % L) = (.int .i64 (l.getD i (0 : Int)))) (hT : Turns w w2 s t) (hN : Newer w t (some b)) (x : Int) (n : Nat) :
    Laid w s t most (l ++ [x]) (.returned (.bool true)) (((w2.drewN n).setCell ⟨b, (f + k) % L, none⟩ (.int .i64 x)).setCell ⟨s, 3, none⟩ (.int .i64 ((k : Int) + 1))) := by
  have hf := hQ.fl (by omega)
  refine ⟨rfl, some b, ⟨L, f, setG g ((f + k) % L) (.int .i64 x), ?_, fun i hi => ?_⟩, ?_, hN⟩
  · have := ((hQ.drewN n).put ((f + k) % L) (.int .i64 x)).count (k + 1) (by omega)
    rw [List.length_append, hk]
    exact this
  · rw [List.length_append, hk] at hi
    unfold setG
    have hi2 : i < k + 1 := hi
    by_cases e : i = k
    · subst e
      rw [if_pos rfl, ← hk]
      simp [List.getD]
    · rw [if_neg (fun h => e (md_inj hf (by omega) hkL h)), hg i (by omega)]
      simp [List.getD, List.getElem?_append_left (show i < l.length by omega)]
  · have h1 := Turns.set w2 n s (some b) ⟨b, (f + k) % L, none⟩ (.int .i64 x) (.inr rfl)
    have h2 := Turns.set ((w2.drewN n).setCell ⟨b, (f + k) % L, none⟩ (.int .i64 x)) 0 s (some b) ⟨s, 3, none⟩ (.int .i64 ((k : Int) + 1)) (.inl rfl)
    exact hT.trans (h1.trans h2 (.inl rfl)) hN

set_option maxHeartbeats 1000000 in
theorem put_yes {w : World} {s : Nat} {t : Option Nat} {most : Nat} {l : List Int} (h : QU w s t most l) (x : Int) (hm : l.length < most) :
    Calls Try.prog 18 #[.pointer (some ⟨s, 0, none⟩), (.int .i64 x)] w (Laid w s t most (l ++ [x])) := by
  have H := Lib.hid h
  obtain ⟨L0, f0, g0, h0, _⟩ := h
  have HP := Lib.hid h0
  have hmm := h0.mm
  have HF : Hid (decide (l.length = most) = false) := Lib.hid (by simp; omega)
  clear h0
  go_enter Try.func18, Try.ntmps18
  go_wp2_with fail
  refine (full_any HP.out).mono ?_
  rintro e w1 ⟨rfl, j, rfl⟩
  rw [HF.out]
  have H1 : Hid (QU (w.drewN j) s t most l) := Lib.hid (H.out.of_blocks rfl (fun _ _ => rfl))
  go_wp2_with fail
  refine (widen_any H1.out hm).mono ?_
  rintro e w2 ⟨⟨v, rfl⟩, t', hR, hT, hN⟩
  obtain ⟨b, L, f, g, rfl, hk, hQ, hg⟩ := hR
  have HQ := Lib.hid hQ
  have HG := Lib.hid hg
  have HT : Hid (Turns w w2 s t) := Lib.hid ((Turns.drewN w j s t).trans hT (.inl rfl))
  have HN : Hid (Newer w t (some b)) := Lib.hid hN
  have hL1 := hQ.lm
  have hfl := hQ.fl (by omega)
  clear hQ hg hT hN H H1 HP HF
  obtain ⟨k, HK⟩ : ∃ k, Hid (l.length = k) := ⟨_, Lib.hid rfl⟩
  have HE : Hid (∀ n, Laid w s t most (l ++ [x]) (.returned (.bool true)) (((w2.drewN n).setCell ⟨b, (f + k) % L, none⟩ (.int .i64 x)).setCell ⟨s, 3, none⟩ (.int .i64 ((k : Int) + 1)))) := Lib.hid (fun n => put_end (by rw [← HK.out]; exact HQ.out) HK.out (by rw [← HK.out]; exact hk) HG.out HT.out HN.out x n)
  rw [HK.out] at hk hm HQ
  obtain ⟨a, HA⟩ : ∃ a, Hid ((f + k) % L = a) := ⟨_, Lib.hid rfl⟩
  rw [HA.out] at HE
  have ha : a < L := by rw [← HA.out]; exact md_lt (by omega)
  have c1 : w2.cell? ⟨s, 1, none⟩ = some (.slice (some ⟨b, 0, none⟩) L L) := HQ.out.head.cell (i := 1) (by omega)
  have c3 : w2.cell? ⟨s, 3, none⟩ = some (.int .i64 k) := HQ.out.head.cell (i := 3) (by omega)
  have f3 : w2.frozen? ⟨s, 3, none⟩ = false := HQ.out.head.frozen _
  have c4 : w2.cell? ⟨b, a, none⟩ = some (g a) := (HQ.out.row b rfl).cell ha
  have f4 : w2.frozen? ⟨b, a, none⟩ = false := (HQ.out.row b rfl).frozen _
  have hsb : s ≠ b := HQ.out.ne
  generalize g a = ga at c4
  clear HG HT HN HK
  go_wp2_with fail
  go_region_with ((go_at_call 57; refine (place_any (HQ.out.drewN 1) k (by omega) (by omega)).mono ?_; rintro e w' ⟨rfl, jj, rfl⟩; rw [HA.out]))
  all_goals
    go_wp2
    go_ret
    exact HE.out _

theorem put_no {w : World} {s : Nat} {t : Option Nat} {most : Nat} {l : List Int} (h : QU w s t most l) (x : Int) (hm : l.length = most) :
    Calls Try.prog 18 #[.pointer (some ⟨s, 0, none⟩), (.int .i64 x)] w fun e w' => e = .returned (.bool false) ∧ ∃ j, w' = w.drewN j := by
  obtain ⟨L0, f0, g0, h0, _⟩ := h
  have HP := Lib.hid h0
  have HF : Hid (decide (l.length = most) = true) := Lib.hid (by simpa using hm)
  clear h0 hm
  go_enter Try.func18, Try.ntmps18
  go_wp2_with fail
  refine (full_any HP.out).mono ?_
  rintro e w1 ⟨rfl, j, rfl⟩
  rw [HF.out]
  go_wp2_with fail
  go_ret
  exact ⟨rfl, j, rfl⟩
theorem put_nil (x : Int) (w : World) : Calls Try.prog 18 #[.pointer none, (.int .i64 x)] w fun e w' => e = .returned (.bool false) ∧ ∃ j, w' = w.drewN j := by
  go_enter Try.func18, Try.ntmps18
  go_wp2_with fail
  refine (full_nil w).mono ?_
  rintro e w1 ⟨rfl, j, rfl⟩
  go_wp2_with fail
  go_ret
  exact ⟨rfl, j, rfl⟩

theorem take_none {w : World} {s : Nat} {t : Option Nat} {most : Nat} (h : QU w s t most ([] : List Int)) :
    Calls Try.prog 22 #[.pointer (some ⟨s, 0, none⟩)] w fun e w' => e = .returned (.tuple #[(.int .i64 (0 : Int)), .bool false]) ∧ w = w' := by
  obtain ⟨L, f, g, h, _⟩ := h
  have HP := Lib.hid h
  clear h
  go_enter Try.func22, Try.ntmps22
  go_wp2_with fail
  refine (len_any HP.out).mono ?_
  rintro e w1 ⟨rfl, rfl⟩
  rw [List.length_nil]
  go_wp2_with fail
  go_ret2
  exact ⟨rfl, rfl⟩
theorem take_nil (w : World) : Calls Try.prog 22 #[.pointer none] w fun e w' => e = .returned (.tuple #[(.int .i64 (0 : Int)), .bool false]) ∧ w = w' := by
  go_enter Try.func22, Try.ntmps22
  go_wp2_with fail
  refine (len_nil w).mono ?_
  rintro e w1 ⟨rfl, rfl⟩
  go_wp2_with fail
  go_ret2
  exact ⟨rfl, rfl⟩

/-- What a call that takes one away leaves. -/
def Gone (w : World) (s : Nat) (t : Option Nat) (most : Nat) (x : Int) (l : List Int) (e : Ending) (w' : World) : Prop := e = .returned (.tuple #[(.int .i64 x), .bool true]) ∧ QU w' s t most l ∧ Turns w w' s t
theorem take_end {w w1 : World} {s b : Nat} {most L f : Nat} {g : Nat → Value} {x : Int} {l : List Int} (hQ : QP w1 s (some b) most L f (l.length + 1) (setG g ((f + 0) % L) (.int .i64 (0 : Int)))) (hg : ∀ i, i < (x :: l).length → g ((f + i) % L) = (.int .i64 ((x :: l).getD i (0 : Int)))) (hT : Turns w w1 s (some b)) (n : Nat) :
    Gone w s (some b) most x l (.returned (.tuple #[(.int .i64 x), .bool true])) (((w1.drewN n).setCell ⟨s, 2, none⟩ (.int .i64 (((f + 1) % L : Nat) : Int))).setCell ⟨s, 3, none⟩ (.int .i64 ((l.length : Nat) : Int))) := by
  have hr := hQ.room
  have hf := hQ.fl (by omega)
  refine ⟨rfl, ⟨L, (f + 1) % L, setG g ((f + 0) % L) (.int .i64 (0 : Int)), ((hQ.drewN n).first _ (md_lt (by omega))).count l.length (by omega), fun i hi => ?_⟩, ?_⟩
  · have e : ((f + 1) % L + i) % L = (f + (i + 1)) % L := by rw [Nat.mod_add_mod]; congr 1; omega
    rw [e]
    unfold setG
    rw [if_neg (fun h => by have := md_inj hf (by omega) (by omega) h; omega), hg (i + 1) (by simp; omega)]
    simp [List.getD]
  · have h1 := Turns.set w1 n s (some b) ⟨s, 2, none⟩ (.int .i64 (((f + 1) % L : Nat) : Int)) (.inl rfl)
    have h2 := Turns.set ((w1.drewN n).setCell ⟨s, 2, none⟩ (.int .i64 (((f + 1) % L : Nat) : Int))) 0 s (some b) ⟨s, 3, none⟩ (.int .i64 ((l.length : Nat) : Int)) (.inl rfl)
    exact hT.trans (h1.trans h2 (.inl rfl)) (.inl rfl)

set_option maxHeartbeats 1000000 in
theorem take_some {w : World} {s : Nat} {t : Option Nat} {most : Nat} {x : Int} {l : List Int} (h : QU w s t most (x :: l)) :
    Calls Try.prog 22 #[.pointer (some ⟨s, 0, none⟩)] w (Gone w s t most x l) := by
  obtain ⟨L, f, g, h, hg⟩ := h
  have hr := h.room
  rw [List.length_cons] at h hr
  have hlm := h.lm
  have hmm := h.mm
  obtain ⟨b, rfl⟩ : ∃ b, t = some b := by
    cases t with
    | none => have := h.non rfl; omega
    | some b => exact ⟨b, rfl⟩
  have HP := Lib.hid h
  have HG := Lib.hid hg
  have HG0 : Hid (g ((f + 0) % L) = (.int .i64 x)) := Lib.hid (by rw [hg 0 (by simp)]; rfl)
  obtain ⟨k, HK⟩ : ∃ k, Hid (l.length = k) := ⟨_, Lib.hid rfl⟩
  rw [HK.out] at hr HP
  clear h hg
  go_enter Try.func22, Try.ntmps22
  go_wp2_with fail
  refine (len_any HP.out).mono ?_
  rintro e w1 ⟨rfl, rfl⟩
  have hk0 : (((k + 1 : Nat) : Int) == 0) = false := by simp; omega
  go_wp2_with fail
  have h0 : (0 : Int) = ((0 : Nat) : Int) := rfl
  rw [h0]
  refine (lift_any HP.out 0 (by omega) x HG0.out).mono ?_
  rintro e w2 ⟨rfl, hQ, hT, hz⟩
  have HQ := Lib.hid hQ
  have HT := Lib.hid hT
  clear h0 hQ hT hz HP
  go_wp2_with fail
  have h1 : (1 : Int) = ((1 : Nat) : Int) := rfl
  rw [h1]
  refine (place_any HQ.out 1 (by omega) (by omega)).mono ?_
  rintro e w3 ⟨rfl, j, rfl⟩
  have HE : Hid (Gone w s (some b) most x l (.returned (.tuple #[(.int .i64 x), .bool true])) (((w2.drewN j).setCell ⟨s, 2, none⟩ (.int .i64 (((f + 1) % L : Nat) : Int))).setCell ⟨s, 3, none⟩ (.int .i64 (k : Int)))) := Lib.hid (by
    have := take_end (x := x) (l := l) (by rw [HK.out]; exact HQ.out) HG.out HT.out j
    rw [HK.out] at this
    exact this)
  clear h1
  generalize (f + 1) % L = a at *
  have c3 : (w2.drewN j).cell? ⟨s, 3, none⟩ = some (.int .i64 ((k + 1 : Nat) : Int)) := HQ.out.head.cell (i := 3) (by omega)
  have f3 : (w2.drewN j).frozen? ⟨s, 3, none⟩ = false := HQ.out.head.frozen _
  have c2 : (w2.drewN j).cell? ⟨s, 2, none⟩ = some (.int .i64 (f : Int)) := HQ.out.head.cell (i := 2) (by omega)
  have f2 : (w2.drewN j).frozen? ⟨s, 2, none⟩ = false := HQ.out.head.frozen _
  have hkk : ((k + 1 : Nat) : Int) - 1 = (k : Int) := by omega
  go_wp2
  go_ret2
  exact HE.out
end Go.Proofs.Ytfhapodidjkmaaa
