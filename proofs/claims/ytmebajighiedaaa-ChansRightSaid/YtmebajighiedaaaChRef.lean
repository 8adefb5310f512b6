/- The document's is, Items, Len, cells, Put, Take. -/
import Derived.Test.YtmebajighiedaaaChSame
namespace Go.Proofs.Ytmebajighiedaaa.ch
open Go.ChangeShapes Go.WideShapes Go.ChangeAt Go.RowKit

theorem rest_zero {l : List Int} {s : Nat} : ((l.drop s).any fun v => decide (v ≠ 0)) = false ↔ ∀ i, s ≤ i → i < l.length → l.getD i 0 = 0 := by
  rw [List.any_eq_false]
  constructor
  · intro h i h1 h2
    have h3 : l.getD i 0 ∈ l.drop s := by
      rw [List.mem_iff_getElem]
      refine ⟨i - s, by simp; omega, ?_⟩
      simp [List.getD, h2, show s + (i - s) = i by omega]
    have := h _ h3
    simpa using this
  · intro h x hx
    obtain ⟨i, hi, rfl⟩ := List.mem_iff_getElem.1 hx
    simp at hi
    have := h (s + i) (by omega) (by omega)
    simp [List.getD, show s + i < l.length by omega] at this
    simp [this]
set_option maxRecDepth 20000 in
set_option maxHeartbeats 1000000 in
theorem is_any (A : Option Addr) (c m : Nat) (l : List Int) (w : World) (hm : m = l.length) (hA : IA w A l) (hcm : m ≤ maxLen) :
    Calls Try.prog 22 #[.slice A m c] w fun e w' => e = .returned (.bool (isC l)) ∧ w = w' := by
  have HM := Lib.hid hm
  have HA := Lib.hid hA
  unfold maxLen at hcm
  clear hm hA
  by_cases h0 : m = 0
  · subst h0
    have HI : Hid (isC l = false) := Lib.hid (isC_no (fun h => by have := HM.out; omega))
    go_enter Try.func22, Try.ntmps22
    go_wp2
    go_ret
    exact ⟨ret_bool HI.out.symm, rfl⟩
  · obtain ⟨b, o, rfl, hb, hcc⟩ := HA.out (by rw [← HM.out]; omega)
    have c1 : w.cell? ⟨b, o, none⟩ = some (.int .i64 (l.getD 0 0)) := hcc 0 (by rw [← HM.out]; omega)
    have HC := Lib.hid hcc
    clear hcc
    have hpos : 0 < m := by omega
    have hz0 : ((m : Int) == 0) = false := by simp; omega
    by_cases h1 : 0 ≤ l.getD 0 0
    · by_cases h2 : l.getD 0 0 ≤ (m : Int) - 1
      · obtain ⟨k, hk⟩ : ∃ k : Nat, l.getD 0 0 = (k : Int) := ⟨(l.getD 0 0).toNat, by omega⟩
        have HKN : Hid (kN l = k) := Lib.hid (by unfold kN; rw [hk]; simp)
        rw [hk] at c1 h1 h2
        have HX := Lib.hid hk
        have hk1 : k + 1 ≤ m := by omega
        have hnl : ¬ (k : Int) > (m : Int) - 1 := by omega
        clear hk
        go_enter Try.func22, Try.ntmps22
        go_wp2
        go_loop [3] (fun i => ∃ j : Nat, k + 1 ≤ j ∧ j ≤ m ∧ i = .int .i64 j ∧ Hid (∀ i, k + 1 ≤ i → i < j → l.getD i 0 = 0)) (fun i => m - (intOf i).toNat)
        case atStart => exact ⟨k + 1, by omega, by omega, by go_num, Lib.hid (fun i h1 h2 => by omega)⟩
        case round =>
          obtain ⟨j, hj1, hj2, rfl, HZ⟩ := hrel
          by_cases hlt : j < m
          · have c2 := HC.out j (by rw [← HM.out]; exact hlt)
            by_cases hz : l.getD j 0 = 0
            · have HZ2 : Hid (∀ i, k + 1 ≤ i → i < j + 1 → l.getD i 0 = 0) := Lib.hid (fun i h1 h2 => by
                by_cases e : i = j
                · subst e; exact hz
                · exact HZ.out i h1 (by omega))
              rw [hz] at c2
              clear hz
              go_wp2
              go_round
              case rel => exact ⟨j + 1, by omega, by omega, by go_num, HZ2⟩
              case measure => simp [intOf]; omega
            · have HI : Hid (isC l = false) := Lib.hid (isC_no (fun h => hz (rest_zero.1 h.2.2.2 j (by rw [HKN.out]; exact hj1) (by rw [← HM.out]; exact hlt))))
              generalize l.getD j 0 = z at c2 hz
              go_wp2
              go_ret
              exact ⟨ret_bool HI.out.symm, rfl⟩
          · obtain rfl : m = j := by omega
            have HI : Hid (isC l = true) := Lib.hid (isC_iff.2 ⟨by rw [← HM.out]; exact hpos, by rw [HX.out]; exact h1, by rw [HX.out, ← HM.out]; omega, rest_zero.2 (fun i h3 h4 => HZ.out i (by rw [← HKN.out]; exact h3) (by rw [HM.out]; exact h4))⟩)
            go_wp2
            go_ret
            exact ⟨ret_bool HI.out.symm, rfl⟩
      · have HI : Hid (isC l = false) := Lib.hid (isC_no (fun h => h2 (by have := h.2.2.1; have := HM.out; omega)))
        generalize l.getD 0 0 = x at c1 h1 h2
        have hgt : x > (m : Int) - 1 := by omega
        go_enter Try.func22, Try.ntmps22
        go_wp2
        go_ret
        exact ⟨ret_bool HI.out.symm, rfl⟩
    · have HI : Hid (isC l = false) := Lib.hid (isC_no (fun h => h1 h.2.1))
      generalize l.getD 0 0 = x at c1 h1
      have hneg : x < 0 := by omega
      go_enter Try.func22, Try.ntmps22
      go_wp2
      go_ret
      exact ⟨ret_bool HI.out.symm, rfl⟩

set_option maxRecDepth 20000 in
set_option maxHeartbeats 1000000 in
theorem refItems_any (A : Option Addr) (c m : Nat) (l : List Int) (w : World) (hm : m = l.length) (hA : IA w A l) (hl : 8 * m ≤ 140737488355328) :
    Calls Try.prog 12 #[.slice A m c] w fun e w' => ∃ v, e = .returned v ∧ OI w.heap.size w' v (itemsF l) ∧ Below w.heap.size w w' := by
  have HM := Lib.hid hm
  have HA := Lib.hid hA
  have HS := Lib.hid (is_any A c m l w hm hA (by unfold maxLen; omega))
  clear hm hA
  obtain ⟨i, HI⟩ : ∃ i, Hid (isC l = i) := ⟨_, Lib.hid rfl⟩
  go_enter Try.func12, Try.ntmps12
  go_wp2_with fail
  refine HS.out.mono ?_
  rintro e w' ⟨rfl, rfl⟩
  rw [HI.out]
  cases i with
  | false =>
    go_wp2
    go_ret
    exact ⟨_, rfl, by rw [items_no HI.out]; exact OI.nil _ _, Below.refl _ _⟩
  | true =>
    have hk := isC_k HI.out
    obtain ⟨k, HKN⟩ : ∃ k, Hid (kN l = k) := ⟨_, Lib.hid rfl⟩
    rw [HKN.out, ← HM.out] at hk
    obtain ⟨hk1, hk2⟩ := hk
    have HIL : Hid ((itemsF l).length = k) := Lib.hid (by rw [items_length HI.out, HKN.out])
    obtain ⟨b, o, rfl, hb, hcc⟩ := HA.out (by rw [← HM.out]; omega)
    have HC : Hid (∀ W, Below w.heap.size w W → ∀ i, i < m → W.cell? ⟨b, o + i, none⟩ = some (.int .i64 (l.getD i 0))) := Lib.hid (fun W hW i hi => (hW.cell (p := ⟨b, o + i, none⟩) hb).trans (hcc i (by rw [← HM.out]; exact hi)))
    have HX := Lib.hid hk1
    clear hcc hk1
    go_wp2
    go_loopw [3, 4] (fun v i wr => ∃ j : Nat, j ≤ k ∧ i = .int .i64 j ∧ Hid (OI w.heap.size wr v ((itemsF l).take j)) ∧ Hid (Below w.heap.size w wr)) (fun _ i _ => k - (intOf i).toNat)
    case atStart => exact ⟨0, by omega, rfl, Lib.hid (OI.nil _ _), Lib.hid (Below.refl _ _)⟩
    case round =>
      obtain ⟨j, hj, rfl, HO, HB⟩ := hrel
      have c0 : wr.cell? ⟨b, o, none⟩ = some (.int .i64 (k : Int)) := by
        have h := HC.out _ HB.out 0 (by omega)
        rwa [HX.out] at h
      by_cases hlt : j < k
      · have c2 := HC.out _ HB.out (1 + j) (by omega)
        have HT : Hid ((itemsF l).take (j + 1) = (itemsF l).take j ++ [l.getD (1 + j) 0]) := Lib.hid (by
          rw [List.take_succ_eq_append_getElem (by rw [HIL.out]; exact hlt)]
          congr 2
          have h := items_getD HI.out (i := j) (by rw [HKN.out]; exact hlt)
          rw [← h]
          simp [List.getD, show j < (itemsF l).length by rw [HIL.out]; exact hlt])
        have HTL : Hid (((itemsF l).take j).length = j) := Lib.hid (by rw [List.length_take, HIL.out]; omega)
        generalize l.getD (1 + j) 0 = z at c2 HT
        have hzw : (wr.heap.size) = wr.heap.size := rfl
        have hji : (1 : Int) + (j : Int) = ((1 + j : Nat) : Int) := by omega
        have hjl : 1 + j < m := by omega
        obtain ⟨q, HQ⟩ : ∃ q, 1 + j = q := ⟨_, rfl⟩
        rw [HQ] at c2 hji hjl
        clear HQ hzw
        go_wp2_with (at_builtin; go_loud (refine append_one8 rfl (.tmp 14) (.tmp 20) rfl w.heap.size _ ((itemsF l).take j) rfl HO.out z rfl (by rw [HTL.out]; omega) HB.out.size ?_); intro v3 w3 ho3 hb3; rw [← HT.out] at ho3; have HO3 := Lib.hid ho3; have HB3 : Hid (Below w.heap.size w w3) := Lib.hid (HB.out.trans hb3); clear ho3 hb3)
        go_roundw
        case rel => exact ⟨j + 1, by omega, by go_num, HO3, HB3⟩
        case measure => simp [intOf]; omega
      · obtain rfl : k = j := by omega
        have HE : Hid ((itemsF l).take k = itemsF l) := Lib.hid (List.take_of_length_le (by rw [HIL.out]; exact Nat.le_refl _))
        rw [HE.out] at HO
        go_wp2
        go_ret
        exact ⟨_, rfl, HO.out, HB.out⟩
end Go.Proofs.Ytmebajighiedaaa.ch
