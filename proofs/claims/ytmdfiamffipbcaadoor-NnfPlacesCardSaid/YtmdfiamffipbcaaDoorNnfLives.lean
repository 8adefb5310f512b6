/- The document's Is; the laws' example. -/
import Derived.Test.YtmdfiamffipbcaaDoorNnfIs
namespace Go.Proofs.YtmdfiamffipbcaaDoor.nf
open Go.ChangeShapes Go.WideShapes Go.ChangeAt Go.RowKit Go.Deep sr lt

/-- Normal form of the first k nodes. -/
def nlB (e : List (Int × Int)) : Bool := (List.range e.length).all fun i => !(decide ((e.getD i (0, 0)).1 = 7) || decide ((e.getD i (0, 0)).1 = 11) || decide ((e.getD i (0, 0)).1 = 12) || (decide ((e.getD i (0, 0)).1 = 4) && decide ((e.getD (i - 1) (0, 0)).1 ≠ 3)))
def NLk (e : List (Int × Int)) (k : Nat) : Prop := ∀ i, i < k → ((e.getD i (0, 0)).1 ≠ 7 ∧ (e.getD i (0, 0)).1 ≠ 11 ∧ (e.getD i (0, 0)).1 ≠ 12) ∧ ((e.getD i (0, 0)).1 = 4 → 0 < i ∧ (e.getD (i - 1) (0, 0)).1 = 3)
set_option maxRecDepth 20000 in
set_option maxHeartbeats 4000000 in
theorem refIs_any (e : List (Int × Int)) (A : Option Addr) (c m : Nat) (w : World) (hm : m = e.length) (hm2 : m ≤ 1000) (hA : PA w A e) : Calls Tryd.prog 16 #[.slice A m c] w fun r w' => r = .returned (.bool (isV e)) ∧ Below w.heap.size w w' := by
  have HK := Lib.hid (begins_any e A c m w hm (by omega) hA)
  have HM := Lib.hid hm
  have HA := Lib.hid hA
  obtain ⟨y, HY⟩ : ∃ y, Hid (isV e = y) := ⟨_, Lib.hid rfl⟩
  rw [HY.out]
  obtain ⟨z, HZ⟩ : ∃ z, Hid (isF e = z) := ⟨_, Lib.hid rfl⟩
  clear hA hm
  go_enter Tryd.func16, Tryd.ntmps16
  go_wp2_with fail
  refine HK.out.mono ?_
  rintro q w1 ⟨v, rfl, h1, h2, h3⟩
  have HB1 := Lib.hid h3
  clear h1 h2 h3 HK
  rw [HZ.out]
  cases z with
  | false =>
    have HE : Hid (y = false) := Lib.hid (by rw [← HY.out]; unfold isV; rw [HZ.out]; rfl)
    go_wp2
    go_ret
    exact ⟨by rw [HE.out]; rfl, HB1.out⟩
  | true =>
    have HIV : Hid (y = true ↔ NL e) := Lib.hid (by rw [← HY.out]; exact isV_is HZ.out)
    go_wp2
    go_loopw [5] (fun iv wr => ∃ k : Nat, k ≤ m ∧ iv = .int .i64 k ∧ wr = w1 ∧ Hid (NLk e k)) (fun iv _ => m - (intOf iv).toNat)
    case atStart => exact ⟨0, Nat.zero_le _, rfl, rfl, Lib.hid (fun i hi => absurd hi (by omega))⟩
    case round =>
      obtain ⟨k, hk, rfl, rfl, HV⟩ := hrel
      by_cases hlt : k < m
      · have HKL : Hid (k < e.length) := Lib.hid (by rw [← HM.out]; exact hlt)
        obtain ⟨b, o, rfl, hb, hc⟩ := (HA.out.below HB1.out) (by rw [← HM.out]; omega)
        have c1 := (hc k HKL.out).1
        obtain ⟨x, HX⟩ : ∃ x, Hid ((e.getD k (0, 0)).1 = x) := ⟨_, Lib.hid rfl⟩
        rw [HX.out] at c1
        have HNO : Hid ((x = 7 ∨ x = 11 ∨ x = 12) → y = false) := Lib.hid (fun h => by
          rcases hy : y with _ | _
          · rfl
          · have h1 := (HIV.out.1 hy) k HKL.out
            rw [HX.out] at h1
            omega)
        by_cases h7 : x = 7 ∨ x = 11 ∨ x = 12
        · have HE := Lib.hid (HNO.out h7)
          clear hc
          rcases h7 with rfl | rfl | rfl
          all_goals
            go_wp2
            go_ret
            exact ⟨by rw [HE.out]; rfl, HB1.out⟩
        · obtain ⟨n7, n11, n12⟩ : x ≠ 7 ∧ x ≠ 11 ∧ x ≠ 12 := by omega
          by_cases h4 : x = 4
          · subst h4
            have HK0 : Hid (0 < k) := Lib.hid (by
              rcases nd_cases (isF_iff.1 HZ.out) HKL.out with h1 | ⟨_, h1⟩ | ⟨h1, _⟩
              · rw [HX.out] at h1; omega
              · exact h1
              · rw [HX.out] at h1; omega)
            obtain ⟨j, rfl⟩ : ∃ j, k = j + 1 := ⟨k - 1, by have := HK0.out; omega⟩
            have c2 := (hc j (by rw [← HM.out]; omega)).1
            have hj1 : ((j + 1 : Nat) : Int) - 1 = (j : Int) := by omega
            have hjm : (j : Int) < (m : Int) := by omega
            obtain ⟨u, HU⟩ : ∃ u, Hid ((e.getD j (0, 0)).1 = u) := ⟨_, Lib.hid rfl⟩
            rw [HU.out] at c2
            clear hc h7 n7 n11 n12
            by_cases h3 : u = 3
            · subst h3
              have HN : Hid (NLk e (j + 1 + 1)) := Lib.hid (fun i hi => by
                by_cases hij : i = j + 1
                · subst hij
                  rw [HX.out]
                  exact ⟨by decide, fun _ => ⟨Nat.succ_pos _, HU.out⟩⟩
                · exact HV.out i (by omega))
              go_wp2
              go_roundw
              case rel => exact ⟨j + 1 + 1, by omega, by go_num, trivial, HN⟩
              case measure => simp [intOf]; omega
            · have h3b : (u != 3) = true := by simpa using h3
              have HE : Hid (y = false) := Lib.hid (by
                rcases hy : y with _ | _
                · rfl
                · have h1 := ((HIV.out.1 hy) (j + 1) HKL.out).2 HX.out
                  rw [Nat.add_sub_cancel, HU.out] at h1
                  exact absurd h1.2 h3)
              go_wp2
              go_ret
              exact ⟨by rw [HE.out]; rfl, HB1.out⟩
          · have HN : Hid (NLk e (k + 1)) := Lib.hid (fun i hi => by
              by_cases hij : i = k
              · subst hij
                rw [HX.out]
                exact ⟨⟨n7, n11, n12⟩, fun h => absurd h h4⟩
              · exact HV.out i (by omega))
            clear hc h7
            go_wp2
            go_roundw
            case rel => exact ⟨k + 1, by omega, by go_num, trivial, HN⟩
            case measure => simp [intOf]; omega
      · obtain rfl : k = m := by omega
        have HE : Hid (y = true) := Lib.hid (HIV.out.2 (fun i hi => HV.out i (by rw [HM.out]; exact hi)))
        go_wp2
        go_ret
        exact ⟨by rw [HE.out]; rfl, HB1.out⟩
def l0 : List (Int × Int) := [(3, 0), (12, 0), (4, 0)]
def l1 : List (Int × Int) := [(1, 0), (3, 0), (4, 0), (9, 0)]
theorem l0_nf : nfL l0 false = l1 := by decide +kernel
theorem l1_is : isV l1 = true := by decide +kernel
theorem pa_l0 {w : World} {b : Nat} {t : TypeId} (h : w.heap[b]? = some (.cells #[.int .i64 3, .int .i64 0, .int .i64 12, .int .i64 0, .int .i64 4, .int .i64 0] t (0, 0))) : PA w (some ⟨b, 0, none⟩) l0 := fun _ => by
  refine ⟨b, 0, rfl, (Array.getElem?_eq_some_iff.1 h).1, fun i hi => ?_⟩
  have hi2 : i = 0 ∨ i = 1 ∨ i = 2 := by have : l0.length = 3 := rfl; omega
  rcases hi2 with rfl | rfl | rfl <;> exact ⟨by simp [World.cell?, h]; rfl, by simp [World.cell?, h]; rfl⟩
theorem pa_l1 {w : World} {b : Nat} {t : TypeId} (h : w.heap[b]? = some (.cells #[.int .i64 1, .int .i64 0, .int .i64 3, .int .i64 0, .int .i64 4, .int .i64 0, .int .i64 9, .int .i64 0] t (0, 0))) : PA w (some ⟨b, 0, none⟩) l1 := fun _ => by
  refine ⟨b, 0, rfl, (Array.getElem?_eq_some_iff.1 h).1, fun i hi => ?_⟩
  have hi2 : i = 0 ∨ i = 1 ∨ i = 2 ∨ i = 3 := by have : l1.length = 4 := rfl; omega
  rcases hi2 with rfl | rfl | rfl | rfl <;> exact ⟨by simp [World.cell?, h]; rfl, by simp [World.cell?, h]; rfl⟩
set_option maxRecDepth 20000 in
set_option maxHeartbeats 4000000 in
theorem lives_any (w : World) (hF : FmW w) : Calls Tryd.prog 9 #[] w fun r w' => r = .returned (.bool true) ∧ Below w.heap.size w w' := by
  have HF := Lib.hid hF
  clear hF
  obtain ⟨w1, HW1⟩ : ∃ w1, w1 = w.alloc (.cells #[.int .i64 3, .int .i64 0, .int .i64 12, .int .i64 0, .int .i64 4, .int .i64 0] 38) := ⟨_, rfl⟩
  have HB1 : Hid (Below w.heap.size w w1) := Lib.hid (by rw [HW1]; exact below_one _ _)
  have HP1 : Hid (PA w1 (some ⟨w.heap.size, 0, none⟩) l0) := Lib.hid (by rw [HW1]; exact pa_l0 (World.alloc_heap_new _ _))
  go_enter Tryd.func9, Tryd.ntmps9
  go_wp2_with fail
  rw [← HW1]
  refine (of_any l0 (some ⟨w.heap.size, 0, none⟩) 3 3 w1 rfl (by decide) HP1.out (HF.out.below HB1.out)).mono ?_
  rw [l0_nf]
  rintro q w2 ⟨C, k, rfl, h1, h2, h3⟩
  have HC := Lib.hid h1
  have HB2 := Lib.hid (HB1.out.trans (h3.mono HB1.out.size))
  clear h1 h2 h3 HW1
  obtain ⟨w3, HW3⟩ : ∃ w3, w3 = w2.alloc (.cells #[.int .i64 1, .int .i64 0, .int .i64 3, .int .i64 0, .int .i64 4, .int .i64 0, .int .i64 9, .int .i64 0] 38) := ⟨_, rfl⟩
  have HB23 : Hid (Below w2.heap.size w2 w3) := Lib.hid (by rw [HW3]; exact below_one _ _)
  have HB3 : Hid (Below w.heap.size w w3) := Lib.hid (HB2.out.trans (HB23.out.mono HB2.out.size))
  have HP3 : Hid (PA w3 (some ⟨w2.heap.size, 0, none⟩) l1) := Lib.hid (by rw [HW3]; exact pa_l1 (World.alloc_heap_new _ _))
  dsimp only [l1, List.length]
  go_wp2_with fail
  rw [← HW3]
  clear HW3
  refine (same_any C (some ⟨w2.heap.size, 0, none⟩) k 4 4 4 l1 l1 w3 rfl rfl (HC.out.below HB23.out) HP3.out (by decide) (by decide)).mono ?_
  rw [show eqP l1 l1 = true from decide_eq_true rfl]
  rintro q w4 ⟨rfl, j, rfl⟩
  have HB4 : Hid (Below w.heap.size w (w3.drewN j)) := Lib.hid (below_drewN HB3.out j)
  go_wp2_with fail
  refine (is_any l1 C k 4 (w3.drewN j) rfl (by decide) (HC.out.below (below_drewN HB23.out j)) (HF.out.below HB4.out)).mono ?_
  rw [l1_is]
  rintro q w5 ⟨rfl, hb5⟩
  have HB5 := Lib.hid (HB4.out.trans (hb5.mono HB4.out.size))
  clear hb5
  go_wp2
  go_ret
  exact ⟨rfl, HB5.out⟩
end Go.Proofs.YtmdfiamffipbcaaDoor.nf
