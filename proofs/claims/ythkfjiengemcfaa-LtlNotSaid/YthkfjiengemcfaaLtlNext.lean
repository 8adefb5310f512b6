/- The program's Next: has a formula a next? -/
import Derived.Test.YthkfjiengemcfaaLtlWorkB
import Derived.Test.YthkfjiengemcfaaLtlParts
import Derived.Shelf.Abstract
namespace Go.Proofs.Ythkfjiengemcfaa.lt
open Go.ChangeShapes Go.WideShapes Go.ChangeAt Go.RowKit sr wb

def IdxP (xs : List Bool) (w : World) (e : Ending) (w' : World) : Prop := ∃ z : Int, e = .returned (.int .i64 z) ∧ (xs.any id = decide (0 ≤ z)) ∧ w = w'
set_option maxHeartbeats 1000000 in
theorem index_bool (B : Option Addr) (t d : Nat) (xs : List Bool) (w : World) (ht : t = xs.length) (ht2 : t ≤ 1000) (hB : RS enc 1 w B xs) :
    Calls Try.prog 41 #[.slice B t d, .bool true] w (IdxP xs w) := by
  have HT := Lib.hid ht
  have HB := Lib.hid hB
  clear ht hB
  go_enter Try.func41, Try.ntmps41
  go_wp2
  go_loop [8] (fun iv => ∃ i : Nat, i ≤ t ∧ iv = .int .i64 i ∧ Hid ((xs.take i).any id = false)) (fun iv => t - (intOf iv).toNat)
  case atStart => exact ⟨0, Nat.zero_le _, rfl, Lib.hid (by simp)⟩
  case round =>
    obtain ⟨i, hi, rfl, HF⟩ := hrel
    by_cases hlt : i < t
    · obtain ⟨b, o, rfl, hb, c1⟩ := rs_at HB.out (i := i) (by rw [← HT.out]; exact hlt)
      have hil : i < xs.length := by rw [← HT.out]; exact hlt
      have e1 : xs.getD i default = xs[i] := by simp [List.getD, hil]
      obtain ⟨x, HX⟩ : ∃ x, Hid (xs.getD i default = x) := ⟨_, Lib.hid rfl⟩
      have HXI : Hid (xs[i] = x) := Lib.hid (by rw [← e1]; exact HX.out)
      rw [HX.out] at c1
      clear e1
      cases x with
      | true =>
        have HE : Hid (xs.any id = decide ((0 : Int) ≤ (i : Int))) := Lib.hid (by
          rw [decide_eq_true (by omega)]
          rw [List.any_eq_true]
          exact ⟨xs[i], List.getElem_mem hil, HXI.out⟩)
        clear HXI hil
        go_wp2
        go_ret
        exact ⟨_, rfl, HE.out, rfl⟩
      | false =>
        have HE : Hid ((xs.take (i + 1)).any id = false) := Lib.hid (by
          rw [List.take_succ_eq_append_getElem hil, List.any_append, HF.out, HXI.out]
          rfl)
        clear HXI hil
        go_wp2
        go_round
        case rel => exact ⟨i + 1, by omega, by go_num, HE⟩
        case measure => simp [intOf]; omega
    · obtain rfl : i = t := by omega
      have HE : Hid (xs.any id = decide ((0 : Int) ≤ -1)) := Lib.hid (by
        have h := HF.out
        rw [HT.out, List.take_length] at h
        rw [h]
        rfl)
      go_wp2
      go_ret
      exact ⟨-1, rfl, HE.out, rfl⟩
theorem contains_bool (B : Option Addr) (t d : Nat) (xs : List Bool) (w : World) (ht : t = xs.length) (ht2 : t ≤ 1000) (hB : RS enc 1 w B xs) :
    Calls Try.prog 32 #[.slice B t d, .bool true] w fun e w' => e = .returned (.bool (xs.any id)) ∧ w = w' := by
  have HK := Lib.hid (index_bool B t d xs w ht ht2 hB)
  clear ht hB
  obtain ⟨b, HB⟩ : ∃ b, Hid (xs.any id = b) := ⟨_, Lib.hid rfl⟩
  rw [HB.out]
  go_enter Try.func32, Try.ntmps32
  go_wp2_with fail
  refine HK.out.mono ?_
  rintro e w' ⟨z, rfl, hz, rfl⟩
  have HZ : Hid (b = decide (0 ≤ z)) := Lib.hid (by rw [← HB.out]; exact hz)
  clear hz
  go_wp2
  go_ret
  exact ⟨by rw [HZ.out]; rfl, rfl⟩

set_option maxRecDepth 20000 in
set_option maxHeartbeats 4000000 in
theorem next1_any (e : List (Int × Int)) (A B : Option Addr) (ab c m d t k : Nat) (xs : List Bool) (W : World) (hm : m = e.length) (hlm : m ≤ 1000) (hA : PA W A e) (hk : k < m) (hX : W.cell? ⟨ab, 0, none⟩ = some (.slice A m c))
    (ht : t = xs.length) (ht2 : t ≤ 2) (hB : RS enc 1 W B xs) :
    Calls Try.prog 31 #[.int .i64 k, .slice B t d, .pointer (some ⟨ab, 0, none⟩)] W fun x W' => x = .returned (.bool (decide ((e.getD k (0, 0)).1 = 8) || xs.any id)) ∧ W = W' := by
  have HK := Lib.hid (contains_bool B t d xs W ht (by omega) hB)
  obtain ⟨b, o, rfl, hb, hc⟩ := hA (by omega)
  obtain ⟨c1, _⟩ := hc k (by omega)
  obtain ⟨op, HOP⟩ : ∃ op, Hid ((e.getD k (0, 0)).1 = op) := ⟨_, Lib.hid rfl⟩
  rw [HOP.out] at c1 ⊢
  obtain ⟨r, HR⟩ : ∃ r, Hid (xs.any id = r) := ⟨_, Lib.hid rfl⟩
  rw [HR.out]
  clear hc ht hB
  by_cases h8 : op = 8
  · subst h8
    go_enter Try.func31, Try.ntmps31
    go_wp2
    go_ret
    exact ⟨rfl, rfl⟩
  · have HE : Hid ((decide (op = 8) || r) = r) := Lib.hid (by rw [decide_eq_false h8]; rfl)
    rw [HE.out]
    have h8b : (op == 8) = false := by simpa using h8
    go_enter Try.func31, Try.ntmps31
    go_wp2_with fail
    refine HK.out.mono ?_
    rw [HR.out]
    rintro x w' ⟨rfl, rfl⟩
    go_wp2
    go_ret
    exact ⟨rfl, rfl⟩
/-- What stands while Next works. -/
def NxI (e : List (Int × Int)) (ab : Nat) (A : Option Addr) (m c : Nat) (k : Nat) (st : List Bool) (W : World) : Prop :=
  ∃ pt, Ok e k pt ∧ st.length = pt.length ∧ st.any id = nxK e k ∧ W.cell? ⟨ab, 0, none⟩ = some (.slice A m c) ∧ ab < W.heap.size
def NextP (r : Bool) (W : World) (x : Ending) (W' : World) : Prop := x = .returned (.bool r) ∧ Below W.heap.size W W'
set_option maxRecDepth 20000 in
set_option maxHeartbeats 4000000 in
theorem next_any (e : List (Int × Int)) (A : Option Addr) (c m : Nat) (w : World) (hm : m = e.length) (hm2 : m ≤ 1000) (hA : PA w A e) :
    Calls Try.prog 13 #[.slice A m c] w (NextP (nextF e) w) := by
  have hmf : ∀ (fn : Fn) (first cap : Array Value) (w : World), (Instr.makeFunc fn first cap).run Try.prog w = .ok (.func fn first cap) w := fun _ _ _ _ => rfl
  have HM := Lib.hid hm
  have HA := Lib.hid hA
  clear hm hA
  have HX : Hid ((w.alloc (.cells #[.slice A m c] 22)).cell? ⟨w.heap.size, 0, none⟩ = some (.slice A m c)) := Lib.hid (World.cell?_alloc_at _ _ _ _ rfl)
  have HB2 : Hid (Below w.heap.size w (w.alloc (.cells #[.slice A m c] 22))) := Lib.hid (below_one _ _)
  have HZ : Hid ((w.alloc (.cells #[.slice A m c] 22)).heap.size = w.heap.size + 1) := Lib.hid (by simp)
  have HWK : Hid (Calls Try.prog 30 #[.slice A m c, .func (.func 31) #[] #[.pointer (some ⟨w.heap.size, 0, none⟩)]] (w.alloc (.cells #[.slice A m c] 22)) (WorkP (fun _ => False) e (NxI e w.heap.size A m c) (w.alloc (.cells #[.slice A m c] 22)))) := Lib.hid (by
    refine work_any 31 _ (fun _ => False) e (NxI e w.heap.size A m c) A c m _ HM.out (HA.out.below HB2.out) hm2 (fun _ h => h.elim) (fun _ _ h => h)
      (enters_of Try.func31 (by kernel_rfl) rfl) ?_ ?_ ?_
    · rintro k st W W' ⟨pt, h1, h2, h3, h6, h7⟩ hT hB
      exact ⟨pt, h1, h2, h3, (hB.cell (p := ⟨w.heap.size, 0, none⟩) (by show w.heap.size < _; rw [HZ.out]; omega)).trans h6, Nat.lt_of_lt_of_le h7 hB.size⟩
    · rintro k st W B t d hk ⟨pt, h1, h2, h3, h6, h7⟩ hT hnd hkt htl hRS hBl
      have hr := kT_range (e.getD k (0, 0)).1
      have hnx := h1.next hk (by rw [← h2]; exact hnd)
      rw [hkt, Int.toNat_natCast] at hnx
      have hBW : Below w.heap.size w W := HB2.out.trans (Turn.below hT (fun _ h => h.elim) (by rw [HZ.out]; omega))
      refine (next1_any e A B w.heap.size c m d t k (st.drop (st.length - t)) W HM.out hm2 (HA.out.below hBW) (by rw [HM.out]; exact hk) h6 (by simp; omega) (by omega) hRS).mono ?_
      rintro x W' ⟨rfl, rfl⟩
      exact ⟨_, rfl, ⟨_, hnx, by simp; omega, any_next hk h3 rfl, h6, h7⟩, Turn.refl _ _⟩
    · exact ⟨[], Ok.zero _, rfl, rfl, HX.out, by rw [HZ.out]; omega⟩)
  have HFIN : Hid (∀ r w3, (wrF 0 e = 0 → NxI e w.heap.size A m c e.length [r] w3) → (wrF 0 e ≠ 0 → r = false) → r = nextF e) := Lib.hid (fun r w3 h1 h2 => by
    unfold nextF
    by_cases hz : wrF 0 e = 0
    · obtain ⟨pt, g1, g2, g3, _⟩ := h1 hz
      rw [isF_iff.2 hz, ← g3]
      simp
    · have hf : isF e = false := by
        cases h : isF e with
        | true => exact absurd (isF_iff.1 h) hz
        | false => rfl
      rw [hf, h2 hz]
      rfl)
  obtain ⟨z, HZW⟩ : ∃ z, Hid (wrF 0 e = z) := ⟨_, Lib.hid rfl⟩
  go_enter Try.func13, Try.ntmps13
  go_wp2_with fail
  refine HWK.out.mono ?_
  rintro x w3 ⟨r, rfl, h1, h2, hT⟩
  have HB3 : Hid (Below w.heap.size w w3) := Lib.hid (HB2.out.trans (hT.below (fun _ h => h.elim) (by rw [HZ.out]; omega)))
  have HR : Hid (r = nextF e) := Lib.hid (HFIN.out r w3 h1 h2)
  rw [HZW.out]
  clear h1 h2 hT HWK HFIN
  go_wp2
  go_ret
  exact ⟨by rw [HR.out]; rfl, HB3.out⟩
end Go.Proofs.Ythkfjiengemcfaa.lt
