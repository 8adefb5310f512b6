/- The document's Of and Live. -/
import Derived.Test.YtnfiohekdbjgoaaSccRefWays
namespace Go.Proofs.Ytnfiohekdbjgoaa.sc
open Go.ChangeShapes Go.WideShapes Go.ChangeAt Go.RowKit

theorem pair_iff {n : Nat} {rows : List (List (Int × Int))} {a b : Nat} (hne : a ≠ b) : (wR n rows a b = true ∧ wR n rows b a = true) ↔ (Wy (eR n rows) a b ∧ Wy (eR n rows) b a) := by
  rw [wR_iff, wR_iff]
  exact ⟨fun h => ⟨wy_of_wp h.1, wy_of_wp h.2⟩, fun h => ⟨wp_of_wy h.1 hne, wp_of_wy h.2 (fun e => hne e.symm)⟩⟩
set_option maxRecDepth 20000 in
set_option maxHeartbeats 8000000 in
theorem refOf_any' (v1 v3 : Value) (A2 : Option Addr) (c2 n : Nat) (rows : List (List (Int × Int))) (w : World) (hn : n = rows.length) (hnl : n ≤ 100) (hrow : ∀ i, (rows.getD i []).length ≤ 2000) (hA : RA w A2 rows) :
    Calls Try.prog 38 #[.agg #[v1, .slice A2 n c2, v3]] w fun e w' => ∃ L, OfL n (eR n rows) L ∧ RowN w L e w' := by
  obtain ⟨w1, HW1⟩ : ∃ w1, Hid (w1 = w.alloc (.cells #[v1, .slice A2 n c2, v3] 26)) := ⟨_, Lib.hid rfl⟩
  have HB1 : Hid (Below w.heap.size w w1) := Lib.hid (by rw [HW1.out]; exact (Below.refl _ _).alloc (Nat.le_refl _) _)
  have HWY := Lib.hid (refWays_any' v1 v3 A2 c2 n rows w1 hn hnl hrow (RA.below hA HB1.out))
  obtain ⟨q0, q1, q2⟩ := box3 w v1 (.slice A2 n c2) v3 26
  rw [← HW1.out] at q0 q1 q2
  clear hn hrow hA
  go_enter Try.func38, Try.ntmps38
  go_wp2_with fail
  rw [← HW1.out]
  go_wp2_with fail
  refine HWY.out.mono ?_
  rintro e w2 ⟨v2, rb, rfl, hm2, hb2⟩
  have HM2 := Lib.hid hm2
  have HB2 : Hid (Below w.heap.size w w2) := Lib.hid (HB1.out.trans (hb2.mono HB1.out.size))
  clear hm2 hb2 q0 q1 q2
  obtain ⟨A0, cap0, rfl⟩ := HM2.out.form
  go_wp2_with fail
  go_loopw [4, 5] (fun v i wr => ∃ (j : Nat) (L : List Int), j ≤ n ∧ i = .int .i64 j ∧ Hid (OI w2.heap.size wr v L) ∧ Hid (L.length = j ∧ ∀ a, a < j → ∃ m : Nat, L.getD a 0 = (m : Int) ∧ Least n (eR n rows) a m) ∧ Hid (Below w2.heap.size w2 wr)) (fun _ i _ => n - (intOf i).toNat)
  case atStart => exact ⟨0, [], by omega, rfl, Lib.hid (OI.nil _ _), Lib.hid ⟨rfl, fun a ha => absurd ha (by omega)⟩, Lib.hid (Below.refl _ _)⟩
  case round =>
    obtain ⟨j, L, hj, rfl, HO, HL, HB⟩ := hrel
    by_cases hlt : j < n
    · have HM := Lib.hid (HM2.out.below HB.out)
      obtain ⟨g0, cap1, hv, hg1, _, _, _⟩ := HM.out.cell (by omega)
      injection hv with hv1 _ hv2
      subst hv1 hv2
      go_wp2_with fail
      go_loop [6, 7] (fun s i => ∃ (d lst : Nat), d ≤ j ∧ i = .int .i64 ((j : Int) - 1 - (d : Int)) ∧ s = .int .i64 (lst : Nat) ∧ Hid (lst ≤ j ∧ Wy (eR n rows) j lst ∧ Wy (eR n rows) lst j ∧ ∀ k, j - d ≤ k → k < lst → ¬ (Wy (eR n rows) j k ∧ Wy (eR n rows) k j))) (fun _ i => (intOf i + 1).toNat)
      case atStart => exact ⟨0, j, by omega, by simp, rfl, Lib.hid ⟨Nat.le_refl _, .here _, .here _, fun k h1 h2 => by omega⟩⟩
      case round =>
        obtain ⟨d, lst, hd, rfl, rfl, HS⟩ := hrel
        by_cases hld : d < j
        · obtain ⟨k, hk⟩ : ∃ k : Nat, j - (d + 1) = k := ⟨_, rfl⟩
          have hkj : k < j := by omega
          have hki : (j : Int) - 1 - (d : Int) = (k : Int) := by omega
          have HKI := Lib.hid hki
          have HK := Lib.hid hk
          have c1 := HM.out.at_ hlt
          have c2 := (HM.out.row j hlt).cell (i := k) (by omega)
          have c3 := HM.out.at_ (j := k) (by omega)
          have c4 := (HM.out.row k (by omega)).cell hlt
          have HP := Lib.hid (pair_iff (n := n) (rows := rows) (a := j) (b := k) (by omega))
          have hk0 : (0 : Int) ≤ (k : Int) := by omega
          rw [hki]
          clear hki hk
          have next_no : ¬ (wR n rows j k = true ∧ wR n rows k j = true) → Hid (lst ≤ j ∧ Wy (eR n rows) j lst ∧ Wy (eR n rows) lst j ∧ ∀ k, j - (d + 1) ≤ k → k < lst → ¬ (Wy (eR n rows) j k ∧ Wy (eR n rows) k j)) := fun h => Lib.hid ⟨HS.out.1, HS.out.2.1, HS.out.2.2.1, fun k2 h1 h2 => by
            by_cases e : k2 = k
            · subst e; exact fun h3 => h (HP.out.2 h3)
            · exact HS.out.2.2.2 k2 (by have := HK.out; omega) h2⟩
          have NO := Lib.hid next_no
          clear next_no
          cases hjk : wR n rows j k with
          | false =>
            have HN := NO.out (by simp [hjk])
            rw [hjk] at c2
            go_wp2
            go_round
            case rel => exact ⟨d + 1, lst, by omega, (by have := HKI.out; congr 1; omega), rfl, HN⟩
            case measure => have := HKI.out; simp only [intOf]; omega
          | true =>
            cases hkj2 : wR n rows k j with
            | false =>
              have HN := NO.out (by simp [hkj2])
              rw [hjk] at c2
              rw [hkj2] at c4
              go_wp2
              go_round
              case rel => exact ⟨d + 1, lst, by omega, (by have := HKI.out; congr 1; omega), rfl, HN⟩
              case measure => have := HKI.out; simp only [intOf]; omega
            | true =>
              have HW := Lib.hid (HP.out.1 ⟨hjk, hkj2⟩)
              rw [hjk] at c2
              rw [hkj2] at c4
              have HN : Hid (k ≤ j ∧ Wy (eR n rows) j k ∧ Wy (eR n rows) k j ∧ ∀ k2, j - (d + 1) ≤ k2 → k2 < k → ¬ (Wy (eR n rows) j k2 ∧ Wy (eR n rows) k2 j)) := Lib.hid ⟨by omega, HW.out.1, HW.out.2, fun k2 h1 h2 => by have := HK.out; omega⟩
              go_wp2
              go_round
              case rel => exact ⟨d + 1, k, by omega, (by have := HKI.out; congr 1; omega), rfl, HN⟩
              case measure => have := HKI.out; simp only [intOf]; omega
        · obtain rfl : d = j := by omega
          have hneg : ¬ (0 : Int) ≤ (d : Int) - 1 - (d : Int) := by omega
          have hll : L.length + 1 ≤ 1000000 := by have := HL.out.1; omega
          go_wp2_with (at_builtin; go_loud (refine append_one rfl (.tmp 40) (.tmp 42) rfl w2.heap.size _ L rfl HO.out (lst : Int) rfl hll HB.out.size ?_); intro v4 w4 ho4 hb4; have HO4 := Lib.hid ho4; have HB4 : Hid (Below w2.heap.size w2 w4) := Lib.hid (HB.out.trans hb4); clear ho4 hb4)
          go_roundw
          case rel => exact ⟨d + 1, L ++ [(lst : Int)], by omega, by go_num, HO4, Lib.hid ⟨by rw [List.length_append, HL.out.1]; rfl, fun a ha => by
            by_cases e : a = d
            · subst e
              refine ⟨lst, ?_, HS.out.1, HS.out.2.1, HS.out.2.2.1, fun k hk => HS.out.2.2.2 k (by omega) hk⟩
              have h := HL.out.1
              simp [List.getD, List.getElem?_append, h]
            · obtain ⟨m, h1, h2⟩ := HL.out.2 a (by omega)
              refine ⟨m, ?_, h2⟩
              rw [← h1]
              have h := HL.out.1
              simp only [List.getD]
              rw [List.getElem?_append_left (by omega)]⟩, HB4⟩
          case measure => simp [intOf]; omega
    · obtain rfl : n = j := by omega
      go_wp2_with fail
      go_ret
      obtain ⟨D, dc, he, hI, hk⟩ := HO.out.ins
      subst he
      exact ⟨L, ⟨HL.out.1, HL.out.2⟩, D, dc, rfl, hI, HB2.out.trans (HB.out.mono HB2.out.size), fun a e => Nat.le_trans HB2.out.size (hk a e).1⟩
theorem refOf_any {w : World} {v : Value} {G : Gr} (hv : GV w v G) (hnl : G.rows.length ≤ 100) (hrow : ∀ i, (G.rows.getD i []).length ≤ 2000) :
    Calls Try.prog 38 #[v] w fun e w' => ∃ L, OfL G.rows.length (eR G.rows.length G.rows) L ∧ RowN w L e w' := by
  obtain ⟨A1, c1, A2, c2, A3, c3, rfl, _, ⟨a2, b2, d2⟩, _⟩ := hv
  exact refOf_any' _ _ A2 c2 _ G.rows w rfl hnl hrow d2
end Go.Proofs.Ytnfiohekdbjgoaa.sc
