/- slices.Reverse on a row of the call's own; advance. -/
import Derived.Test.YtkaddfbnlkmehaaPermOver
import Derived.Test.YtkaddfbnlkmehaaPermAllPure
namespace Go.Proofs.Ytkaddfbnlkmehaa
open Go.ChangeShapes Go.WideShapes Go.ChangeAt Go.RowKit

/-- A row of ints. -/
def ri (f : Nat → Int) (q : Nat) : Value := .int .i64 (f q)
/-- n places from o on, the outer k on both sides turned about. -/
def revF (o n k : Nat) (f : Nat → Int) (q : Nat) : Int := if (o ≤ q ∧ q < o + k) ∨ (o + n ≤ q + k ∧ q < o + n) then f (o + o + n - 1 - q) else f q
theorem revF_step {o n k : Nat} {f : Nat → Int} (h : k + k + 1 < n) (q : Nat) :
    (if q = o + (n - 1 - k) then revF o n k f (o + k) else if q = o + k then revF o n k f (o + (n - 1 - k)) else revF o n k f q) = revF o n (k + 1) f q := by
  unfold revF
  by_cases h1 : q = o + (n - 1 - k)
  · subst h1
    rw [if_pos rfl, if_neg (by omega), if_pos (by omega)]
    congr 1; omega
  · rw [if_neg h1]
    by_cases h2 : q = o + k
    · subst h2
      rw [if_pos rfl, if_neg (by omega), if_pos (by omega)]
      congr 1; omega
    · rw [if_neg h2]
      by_cases h3 : (o ≤ q ∧ q < o + k) ∨ (o + n ≤ q + k ∧ q < o + n)
      · rw [if_pos h3, if_pos (by omega)]
      · rw [if_neg h3, if_neg (by omega)]
/-- All n places turned about. -/
def revA (o n : Nat) (f : Nat → Int) (q : Nat) : Int := if o ≤ q ∧ q < o + n then f (o + o + n - 1 - q) else f q
theorem revF_end {o n k : Nat} {f : Nat → Int} (h : n ≤ k + k + 1) (hk : k + k ≤ n) (q : Nat) : revF o n k f q = revA o n f q := by
  unfold revF revA
  by_cases h1 : (o ≤ q ∧ q < o + k) ∨ (o + n ≤ q + k ∧ q < o + n)
  · rw [if_pos h1, if_pos (by omega)]
  · rw [if_neg h1]
    by_cases h2 : o ≤ q ∧ q < o + n
    · rw [if_pos h2]; congr 1; omega
    · rw [if_neg h2]

set_option maxHeartbeats 2000000 in
theorem reverse_any (g o n M c : Nat) (f : Nat → Int) (w : World) (hrow : w.rowIs g 3 M (ri f)) (hn : o + n ≤ M) (hM : M ≤ 1000000) :
    Calls Try.prog 47 #[.slice (some ⟨g, o, none⟩) n c] w fun e w' => (∃ v, e = .returned v) ∧ Turn (fun q => q = g) w w' ∧ w'.rowIs g 3 M (ri (revA o n f)) := by
  have HR := Lib.hid hrow
  have HN := Lib.hid hn
  have hn2 : n ≤ 1000000 := by omega
  have hmx : Try.prog.follows .mixedOrders = true := by kernel_rfl
  clear hrow hn
  go_enter Try.func47, Try.ntmps47
  go_wp2
  go_loopw [2, 3] (fun i j wr => ∃ (k : Nat) (v : Int), k + k ≤ n ∧ i = .int .i64 k ∧ j = .int .i64 v ∧ v = (n : Int) - 1 - (k : Int) ∧ Hid (wr.rowIs g 3 M (ri (revF o n k f))) ∧ Hid (Turn (fun q => q = g) w wr)) (fun i _ _ => n - (intOf i).toNat)
  case atStart => exact ⟨0, _, by omega, rfl, rfl, by omega, Lib.hid (HR.out.congr (fun q hq => by unfold ri revF; rw [if_neg (by omega)])), Lib.hid (Turn.refl _ _)⟩
  case round =>
    obtain ⟨k, v, hk, rfl, rfl, hv, HW, HT⟩ := hrel
    by_cases hlt : k + k + 1 < n
    · obtain ⟨j, HJ⟩ : ∃ j : Nat, Hid (v = (j : Int) ∧ n - 1 - k = j) := ⟨n - 1 - k, Lib.hid (by omega)⟩
      have hj2 := HJ.out.1
      subst hj2
      have hkj : k < j := by have := HJ.out.2; omega
      have hjn : j < n := by have := HJ.out.2; omega
      have hkn : k < n := by omega
      obtain ⟨x, HX⟩ : ∃ x, Hid (revF o n k f (o + k) = x) := ⟨_, Lib.hid rfl⟩
      obtain ⟨y, HY⟩ : ∃ y, Hid (revF o n k f (o + j) = y) := ⟨_, Lib.hid rfl⟩
      have c1 : wr.cell? ⟨g, o + k, none⟩ = some (.int .i64 x) := by rw [HW.out.cell (i := o + k) (by have := HN.out; omega), ri, HX.out]
      have c2 : wr.cell? ⟨g, o + j, none⟩ = some (.int .i64 y) := by rw [HW.out.cell (i := o + j) (by have := HN.out; omega), ri, HY.out]
      have d1 := HW.out.frozen (o + k)
      have d2 := HW.out.frozen (o + j)
      have HROW : Hid (((wr.setCell ⟨g, o + k, none⟩ (.int .i64 y)).setCell ⟨g, o + j, none⟩ (.int .i64 x)).rowIs g 3 M (ri (revF o n (k + 1) f))) := Lib.hid (((HW.out.set (o + k) (.int .i64 y)).set (o + j) (.int .i64 x)).congr (fun q hq => by
        unfold ri
        rw [← revF_step (o := o) (n := n) (k := k) hlt q, HJ.out.2, HX.out, HY.out]
        split
        · rfl
        · split <;> rfl))
      clear hv
      go_wp2
      go_region
      all_goals
        go_wp2
        exact ⟨⟨k + 1, _, by omega, rfl, rfl, by have := HJ.out.2; omega, Lib.hid HROW.out.drew, Lib.hid (((HT.out.set ⟨g, o + k, none⟩ _ rfl).set ⟨g, o + j, none⟩ _ rfl).drewN 1)⟩, by simp [intOf]; omega⟩
    · have HE : Hid (wr.rowIs g 3 M (ri (revA o n f))) := Lib.hid (HW.out.congr fun q hq => by unfold ri; rw [revF_end (by omega) hk q])
      have hge : ¬ (k : Int) < v := by omega
      clear hv
      go_wp2
      go_end0
      exact ⟨⟨_, rfl⟩, HT.out, HE.out⟩

/-- What a list lies as. -/
def lrow (p : List Int) (q : Nat) : Int := p.getD q 0
/-- What advance leaves. -/
def Advd (g m : Nat) (p : List Int) (w : World) (e : Ending) (w' : World) : Prop := ∃ q, e = .returned (.bool (adv p).isSome) ∧ q = (adv p).getD p ∧ Turn (fun x => x = g) w w' ∧ w'.rowIs g 3 m (ri (lrow q))

theorem Turn.trans {T : Nat → Prop} {a b c : World} (h : Turn T a b) (k : Turn T b c) : Turn T a c :=
  ⟨k.os.trans h.os, k.tape.trans h.tape, k.output.trans h.output, Nat.le_trans h.size k.size, fun q hq hT => (k.block q (Nat.lt_of_lt_of_le hq h.size) hT).trans (h.block q hq hT)⟩

set_option maxHeartbeats 2000000 in
theorem advance_any (g m : Nat) (p : List Int) (w : World) (hm : m = p.length) (hrow : w.rowIs g 3 m (ri (lrow p))) (hM : m ≤ 1000000) :
    Calls Try.prog 61 #[.slice (some ⟨g, 0, none⟩) m m] w (Advd g m p w) := by
  have HR := Lib.hid hrow
  have HM := Lib.hid hm
  have hmx : Try.prog.follows .mixedOrders = true := by kernel_rfl
  clear hrow hm
  go_enter Try.func61, Try.ntmps61
  go_wp2
  go_loopw [3] (fun a wr => ∃ (i : Nat) (v : Int) (j : Nat), a = .int .i64 v ∧ (i = 0 → v < 0 ∧ -3 < v) ∧ (0 < i → v = (i : Int) - 1 ∧ i < m) ∧ Hid (atN p (m - 1) = atN p i) ∧ wr = w.drewN j) (fun a _ => (intOf a + 3).toNat)
  case atStart => exact ⟨m - 1, _, 0, rfl, by omega, by omega, Lib.hid rfl, rfl⟩
  case round =>
    obtain ⟨i, v, j, rfl, hi0, hi1, HA, rfl⟩ := hrel
    cases i with
    | zero =>
      obtain ⟨h1, h2⟩ := hi0 rfl
      have hd : decide (0 ≤ v) = false := decide_eq_false (by omega)
      have HN : Hid (adv p = none) := Lib.hid (by unfold adv; rw [← HM.out, HA.out]; rfl)
      clear hi0 hi1
      go_wp2
      go_quiet (fail)
      go_wp2
      go_ret
      exact ⟨p, by rw [HN.out]; rfl, by rw [HN.out]; rfl, (Turn.refl _ w).drewN _, HR.out⟩
    | succ a =>
      obtain ⟨hv, ham⟩ := hi1 (by omega)
      obtain rfl : v = (a : Int) := by omega
      clear hv hi0 hi1
      have hd : decide (0 ≤ (a : Int)) = true := decide_eq_true (by omega)
      have c1 : w.cell? ⟨g, a, none⟩ = some (.int .i64 (p.getD a 0)) := HR.out.cell (i := a) (by omega)
      have c2 : w.cell? ⟨g, a + 1, none⟩ = some (.int .i64 (p.getD (a + 1) 0)) := HR.out.cell (i := a + 1) (by omega)
      have HS : Hid (atN p (a + 1) = if p.getD a 0 > p.getD (a + 1) 0 then atN p a else a + 1) := Lib.hid rfl
      obtain ⟨x, HX⟩ : ∃ x, Hid (p.getD a 0 = x) := ⟨_, Lib.hid rfl⟩
      obtain ⟨y, HY⟩ : ∃ y, Hid (p.getD (a + 1) 0 = y) := ⟨_, Lib.hid rfl⟩
      rw [HX.out] at c1
      rw [HY.out] at c2
      by_cases hxy : x > y
      · have HS2 : Hid (atN p (a + 1) = atN p a) := Lib.hid (by rw [HS.out, HX.out, HY.out, if_pos hxy])
        clear HS
        go_wp2
        go_quiet (fail)
        go_wp2
        go_roundw
        case rel => exact ⟨a, _, _, rfl, by omega, by omega, Lib.hid (by rw [HA.out, HS2.out]), rfl⟩
        case measure => simp [intOf]; omega
      · have HS2 : Hid (atN p (m - 1) = a + 1) := Lib.hid (by rw [HA.out, HS.out, HX.out, HY.out, if_neg hxy])
        clear HS HA
        go_wp2
        go_quiet (fail)
        go_wp2
        have hxy' : ¬ y < x := by omega
        clear hxy
        go_loopw [4] (fun b wr => ∃ (t : Nat) (v : Int) (j : Nat), b = .int .i64 v ∧ v = (t : Int) ∧ a < t ∧ t < m ∧ Hid (wtN p x (m - 1) = wtN p x t) ∧ wr = w.drewN j) (fun b _ => (intOf b + 3).toNat)
        case atStart => exact ⟨m - 1, _, _, rfl, by omega, by omega, by omega, Lib.hid rfl, rfl⟩
        case round =>
          obtain ⟨t, v, j2, rfl, hv, hat, htm, HW, rfl⟩ := hrel
          subst hv
          have c3 : w.cell? ⟨g, t, none⟩ = some (.int .i64 (p.getD t 0)) := HR.out.cell (i := t) htm
          obtain ⟨z, HZ⟩ : ∃ z, Hid (p.getD t 0 = z) := ⟨_, Lib.hid rfl⟩
          rw [HZ.out] at c3
          by_cases hzx : z < x
          · have hne : t ≠ a + 1 := fun e => by
              have h1 := HZ.out
              have h2 := HY.out
              rw [e] at h1
              omega
            obtain ⟨t', rfl⟩ : ∃ t', t = t' + 1 := ⟨t - 1, by omega⟩
            have HW2 : Hid (wtN p x (m - 1) = wtN p x t') := Lib.hid (by rw [HW.out, wtN, HZ.out, if_pos hzx])
            have hat2 : a < t' := by omega
            clear HW hne hxy' c2
            go_wp2
            go_quiet (fail)
            go_wp2
            go_roundw
            case rel => exact ⟨t', _, _, rfl, by omega, by omega, by omega, HW2, rfl⟩
            case measure => simp [intOf]; omega
          · obtain ⟨t', rfl⟩ : ∃ t', t = t' + 1 := ⟨t - 1, by omega⟩
            have HW2 : Hid (wtN p x (m - 1) = t' + 1) := Lib.hid (by rw [HW.out, wtN, HZ.out, if_neg hzx])
            have HADV : Hid (adv p = some ((List.range m).map (swp p a (t' + 1)))) := Lib.hid (by unfold adv; rw [← HM.out, HS2.out]; simp only []; rw [HX.out, HW2.out])
            have d1 := HR.out.frozen a
            have d2 := HR.out.frozen (t' + 1)
            have HROW : Hid (((w.setCell ⟨g, a, none⟩ (.int .i64 z)).setCell ⟨g, t' + 1, none⟩ (.int .i64 x)).rowIs g 3 m (ri (fun q => if q = t' + 1 then p.getD a 0 else if q = a then p.getD (t' + 1) 0 else p.getD q 0))) := Lib.hid (((HR.out.set a (.int .i64 z)).set (t' + 1) (.int .i64 x)).congr (fun q hq => by
              rw [HX.out, HZ.out]
              show (if q = t' + 1 then Value.int .i64 x else if q = a then .int .i64 z else .int .i64 (p.getD q 0)) = .int .i64 (if q = t' + 1 then x else if q = a then z else p.getD q 0)
              by_cases h1 : q = t' + 1
              · rw [if_pos h1, if_pos h1]
              · rw [if_neg h1, if_neg h1]
                by_cases h2 : q = a
                · rw [if_pos h2, if_pos h2]
                · rw [if_neg h2, if_neg h2]))
            have HT : Hid (Turn (fun x => x = g) w ((w.setCell ⟨g, a, none⟩ (.int .i64 z)).setCell ⟨g, t' + 1, none⟩ (.int .i64 x))) := Lib.hid (((Turn.refl (fun x => x = g) w).set ⟨g, a, none⟩ _ rfl).set ⟨g, t' + 1, none⟩ _ rfl)
            clear HW hxy' c2
            go_wp2
            go_quiet (fail)
            go_wp2
            go_region
            all_goals
              go_wp2_with fail
              refine (reverse_any g (a + 1) (m - (a + 1)) m (m - (a + 1)) _ _ (show (((w.drewN (j2 + nq + 1)).setCell ⟨g, a, none⟩ (.int .i64 z)).setCell ⟨g, t' + 1, none⟩ (.int .i64 x)).rowIs g 3 m (ri (fun q => if q = t' + 1 then p.getD a 0 else if q = a then p.getD (t' + 1) 0 else p.getD q 0)) from HROW.out) (by omega) hM).mono ?_
              rintro e w5 ⟨⟨v5, rfl⟩, hT5, hR5⟩
              have HT5 := Lib.hid hT5
              have HR5 := Lib.hid hR5
              clear hT5 hR5 c1 c3 d1 d2
              go_wp2
              go_ret
              refine ⟨(List.range m).map (swp p a (t' + 1)), by rw [HADV.out]; rfl, by rw [HADV.out]; rfl, Turn.trans (show Turn (fun x => x = g) w (((w.drewN (j2 + nq + 1)).setCell ⟨g, a, none⟩ (.int .i64 z)).setCell ⟨g, t' + 1, none⟩ (.int .i64 x)) from ⟨HT.out.os, HT.out.tape, HT.out.output, HT.out.size, HT.out.block⟩) HT5.out, HR5.out.congr fun q hq => ?_⟩
              have e1 : lrow ((List.range m).map (swp p a (t' + 1))) q = swp p a (t' + 1) q := by simp [lrow, List.getD, hq]
              unfold ri
              rw [e1]
              unfold swp revA
              by_cases hq2 : a + 1 ≤ q
              · rw [if_pos ⟨hq2, by omega⟩, if_pos hq2, ← HM.out, show a + 1 + (a + 1) + (m - (a + 1)) - 1 - q = a + 1 + m - 1 - q by omega]
              · rw [if_neg (fun h => hq2 h.1), if_neg hq2]
end Go.Proofs.Ytkaddfbnlkmehaa
