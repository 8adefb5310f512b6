/- The document's period and part. -/
import Derived.Test.YtophajljjnjcdaaWdRefAt
import Derived.Test.YtophajljjnjcdaaWdNorm
import Derived.BigQuiet
namespace Go.Proofs.Ytophajljjnjcdaa.wd
open Go.ChangeShapes Go.WideShapes Go.ChangeAt Go.RowKit Go.Deep sr lt nf

set_option maxRecDepth 20000 in
set_option maxHeartbeats 4000000 in
theorem refPeriod_any (A : Option Addr) (m c : Nat) (l : List Int) (w : World) (hm : m = l.length) (h0 : 0 < m) (hm2 : m ≤ 1000) (hA : UA w A l) :
    Calls Try.prog 40 #[.slice A m c] w (ValP w (.int .i64 (perF l : Nat))) := by
  have HM := Lib.hid hm
  obtain ⟨b, o, rfl, hb, hc⟩ := hA (by omega)
  have HC : Hid (∀ j, j < m → w.cell? ⟨b, o + j, none⟩ = some (.int .u64 (l.getD j 0))) := Lib.hid (fun j hj => hc j (by omega))
  obtain ⟨P, HP⟩ : ∃ P : Nat, Hid (perF l = P) := ⟨_, Lib.hid rfl⟩
  have HP1 : Hid (P = perG l (m - 1) 1) := Lib.hid (by rw [← HP.out, HM.out]; rfl)
  rw [HP.out]
  clear hm hA hc HP
  go_enter Try.func40, Try.ntmps40
  go_wp2
  go_loopw [3] (fun iv wr => ∃ k : Nat, 1 ≤ k ∧ k ≤ m ∧ iv = .int .i64 k ∧ Hid (∃ j, wr = w.drewN j) ∧ Hid (P = perG l (m - k) k)) (fun iv _ => m - (intOf iv).toNat)
  case atStart => exact ⟨1, Nat.le_refl _, h0, rfl, Lib.hid ⟨0, rfl⟩, HP1⟩
  case round =>
    obtain ⟨k, hk1, hkm, rfl, HJ, HK⟩ := hrel
    by_cases hlt : k < m
    · have hlti : (k : Int) < m := by omega
      obtain ⟨r, HR⟩ : ∃ r : Nat, Hid (m % k = r) := ⟨_, Lib.hid rfl⟩
      have hrt : (m : Int).tmod (k : Int) = (r : Int) := by
        rw [Int.tmod_eq_emod_of_nonneg (by omega), ← HR.out]
        rfl
      have hk0 : ¬ (k : Int) = 0 := by omega
      obtain ⟨f, HF⟩ : ∃ f, Hid (m - k = f + 1 ∧ m - (k + 1) = f) := ⟨m - k - 1, Lib.hid ⟨by omega, by omega⟩⟩
      obtain ⟨s0, HS0⟩ : ∃ s, Hid (decide (r = 0) = s) := ⟨_, Lib.hid rfl⟩
      have hs0 : ((r : Int) == 0) = s0 := by
        rw [← HS0.out]
        by_cases h : r = 0
        · subst h; rfl
        · rw [decide_eq_false h]; simpa using h
      have HST : Hid ((s0 = true → m % k = 0) ∧ (s0 = false → perOk l k = false)) := Lib.hid ⟨fun h => by rw [HR.out]; rw [← HS0.out] at h; exact of_decide_eq_true h, fun h => by
        unfold perOk
        rw [← HM.out, HR.out, HS0.out, h]
        rfl⟩
      go_wp2
      clear hs0 hrt
      go_loopw [4, 5] (fun sv iv wq => ∃ (s : Bool) (i : Nat), k ≤ i ∧ i ≤ m ∧ sv = .bool s ∧ iv = .int .i64 i ∧ Hid (∃ j, wq = w.drewN j) ∧ Hid ((s = true → m % k = 0 ∧ ∀ j, j + k < i → l.getD (j + k) 0 = l.getD j 0) ∧ (s = false → perOk l k = false))) (fun _ iv _ => m - (intOf iv).toNat)
      case atStart => exact ⟨s0, k, Nat.le_refl _, hkm, rfl, rfl, HJ, Lib.hid ⟨fun h => ⟨HST.out.1 h, fun j hj => absurd hj (by omega)⟩, HST.out.2⟩⟩
      case round =>
        clear HJ
        obtain ⟨s, i, hki, him, rfl, rfl, HJ, HV⟩ := hrel
        obtain ⟨wo, rfl⟩ : ∃ wo, wo = wr := ⟨wr, rfl⟩
        by_cases hi : i < m
        · have hii : (i : Int) < m := by omega
          cases s with
          | true =>
            obtain ⟨q, HQ, hq⟩ : ∃ q : Nat, Hid (i = q + k) ∧ (i : Int) - (k : Int) = (q : Int) := ⟨i - k, Lib.hid (by omega), by omega⟩
            have hqm : q < m := by have := HQ.out; omega
            have hqi : (q : Int) < m := by omega
            have c1 : wo.cell? ⟨b, o + i, none⟩ = some (.int .u64 (l.getD i 0)) := by
              obtain ⟨j, hj⟩ := HJ.out
              rw [hj]
              exact HC.out i hi
            have c2 : wo.cell? ⟨b, o + q, none⟩ = some (.int .u64 (l.getD q 0)) := by
              obtain ⟨j, hj⟩ := HJ.out
              rw [hj]
              exact HC.out q hqm
            obtain ⟨y, HY⟩ : ∃ y, Hid (decide (l.getD i 0 = l.getD q 0) = y) := ⟨_, Lib.hid rfl⟩
            have hy : (l.getD i 0 == l.getD q 0) = y := by
              rw [← HY.out]
              by_cases h : l.getD i 0 = l.getD q 0
              · rw [h]; simp
              · rw [decide_eq_false h]; simpa using h
            have HV2 : Hid ((y = true → m % k = 0 ∧ ∀ j, j + k < i + 1 → l.getD (j + k) 0 = l.getD j 0) ∧ (y = false → perOk l k = false)) := Lib.hid ⟨fun h => ⟨(HV.out.1 rfl).1, fun j hj => by
              by_cases hjq : j = q
              · subst hjq
                rw [← HQ.out]
                rw [← HY.out] at h
                exact of_decide_eq_true h
              · exact (HV.out.1 rfl).2 j (by have := HQ.out; omega)⟩, fun h => by
              rw [← HY.out] at h
              have h := of_decide_eq_false h
              have hno : ¬ perOk l k = true := fun h2 => by
                have h3 := ((perOk_iff (by rw [← HM.out]; omega)).1 h2).2 q (by rw [← HM.out, ← HQ.out]; exact hi)
                rw [← HQ.out] at h3
                exact h h3
              simpa using hno⟩
            generalize l.getD i 0 = u1 at c1 hy
            generalize l.getD q 0 = u2 at c2 hy
            go_wp2
            go_quiet (fail)
            go_wp2
            go_roundw
            case rel => exact ⟨y, i + 1, by omega, by omega, by first | rfl | (rw [← hy]), by go_num, Lib.hid (by obtain ⟨j, hj⟩ := HJ.out; rw [hj]; exact ⟨_, World.drewN_drewN _ _ _⟩), HV2⟩
            case measure => simp [intOf]; omega
          | false =>
            have HN : Hid (perOk l k = false) := Lib.hid (HV.out.2 rfl)
            have HK2 : Hid (P = perG l (m - (k + 1)) (k + 1)) := Lib.hid (by rw [HK.out, HF.out.1, HF.out.2]; exact perG_no HN.out)
            go_wp2
            exact ⟨⟨k + 1, by omega, by omega, by go_num, HJ, HK2⟩, by simp [intOf]; omega⟩
        · obtain rfl : i = m := by omega
          have hii : ¬ (i : Int) < i := by omega
          cases s with
          | true =>
            have HPK : Hid (P = k) := Lib.hid (by
              rw [HK.out, HF.out.1]
              refine perG_yes ((perOk_iff (by rw [← HM.out]; omega)).2 ⟨by rw [← HM.out]; exact (HV.out.1 rfl).1, fun j hj => (HV.out.1 rfl).2 j (by rw [HM.out]; exact hj)⟩))
            go_wp2
            go_ret
            exact ⟨by rw [HPK.out]; rfl, by obtain ⟨j, hj⟩ := HJ.out; rw [hj]; exact below_drewN (Below.refl _ _) _⟩
          | false =>
            have HN : Hid (perOk l k = false) := Lib.hid (HV.out.2 rfl)
            have HK2 : Hid (P = perG l (i - (k + 1)) (k + 1)) := Lib.hid (by rw [HK.out, HF.out.1, HF.out.2]; exact perG_no HN.out)
            go_wp2
            exact ⟨⟨k + 1, by omega, by omega, by go_num, HJ, HK2⟩, by simp [intOf]; omega⟩
    · have hlti : ¬ (k : Int) < m := by omega
      have HPM : Hid (P = m) := Lib.hid (by
        rw [HK.out, show m - k = 0 by omega, HM.out]
        rfl)
      go_wp2
      go_ret
      exact ⟨by rw [HPM.out]; rfl, by obtain ⟨j, hj⟩ := HJ.out; rw [hj]; exact below_drewN (Below.refl _ _) _⟩
/-- The sets from a place on, so many. -/
def partF (st lp : List Int) (a k : Nat) : List Int := (List.range k).map fun j => atF st lp ((a + j : Nat) : Int)
theorem part_len (st lp : List Int) (a k : Nat) : (partF st lp a k).length = k := by simp [partF]
theorem part_snoc (st lp : List Int) (a k : Nat) : partF st lp a (k + 1) = partF st lp a k ++ [atF st lp ((a + k : Nat) : Int)] := by
  unfold partF
  rw [List.range_succ, List.map_append]
  rfl
theorem part_get {st lp : List Int} {a k j : Nat} (h : j < k) : (partF st lp a k).getD j 0 = atF st lp ((a + j : Nat) : Int) := by
  simp [partF, List.getD, h]
set_option maxRecDepth 20000 in
set_option maxHeartbeats 4000000 in
theorem refPart_any (x : WX) (st lp : List Int) (a b : Nat) (w : World) (hX : WdR w x st lp) (hab : a ≤ b) (hb : b ≤ 100000) : Calls Try.prog 41 #[x.v, .int .i64 a, .int .i64 b] w (NewU w (b - a) (partF st lp a (b - a))) := by
  have HAT := Lib.hid (fun (k : Nat) W (hW : Below w.heap.size w W) (hk : k ≤ 100000) => refAt_any x st lp k W (hX.below hW) (by omega) (by omega))
  clear hX
  obtain ⟨A, n, c, B, m, d⟩ := x
  unfold WX.v at HAT ⊢
  dsimp only at HAT ⊢
  obtain ⟨w1, HW1, HB1, HBX⟩ : ∃ w1, w.alloc (.cells #[.slice A n c, .slice B m d] 24) = w1 ∧ Hid (Below w.heap.size w w1) ∧ Hid (∀ W, Below w1.heap.size w1 W → W.cell? ⟨w.heap.size, 0, none⟩ = some (.slice A n c) ∧ W.cell? ⟨w.heap.size, 1, none⟩ = some (.slice B m d)) := by
    have e : (w.alloc (.cells #[.slice A n c, .slice B m d] 24)).heap.size = w.heap.size + 1 := by simp
    exact ⟨_, rfl, Lib.hid (below_one _ _), Lib.hid (fun W h => ⟨(h.cell (p := ⟨w.heap.size, 0, none⟩) (by show w.heap.size < _; omega)).trans (World.cell?_alloc_at _ _ _ _ (by simp)), (h.cell (p := ⟨w.heap.size, 1, none⟩) (by show w.heap.size < _; omega)).trans (World.cell?_alloc_at _ _ _ _ (by simp))⟩)⟩
  go_enter Try.func41, Try.ntmps41
  go_upto_region 1 with (fail)
  clear HW1
  go_wp2
  go_loopw [7, 8] (fun ov iv wr => ∃ (i : Nat) (v : Value), i ≤ b - a ∧ iv = .int .i64 ((a + i : Nat) : Int) ∧ v = ov ∧ Hid (OR encU 1 w1.heap.size 30 wr v (partF st lp a i)) ∧ Hid (Below w1.heap.size w1 wr)) (fun _ iv _ => b - (intOf iv).toNat)
  case atStart => exact ⟨0, _, Nat.zero_le _, rfl, rfl, Lib.hid (World.ownsRow_nil _ _ _ _), Lib.hid (Below.refl _ _)⟩
  case round =>
    obtain ⟨i, v, hi, rfl, rfl, HO, HB⟩ := hrel
    obtain ⟨k, HK, hk⟩ : ∃ k : Nat, Hid (a + i = k) ∧ a + i = k := ⟨_, Lib.hid rfl, rfl⟩
    rw [hk]
    by_cases hlt : k < b
    · have hki : (k : Int) < b := by omega
      obtain ⟨y1, y2⟩ := HBX.out wr HB.out
      have HKB : Hid (k ≤ 100000) := Lib.hid (by omega)
      have HL : Hid ((partF st lp a i).length ≤ 100000) := Lib.hid (by rw [part_len]; omega)
      go_wp2_with fail
      refine (HAT.out k wr (HB1.out.trans (HB.out.mono HB1.out.size)) HKB.out).mono ?_
      rintro e5 w5 ⟨rfl, hb5⟩
      have HB5 : Hid (Below w1.heap.size w1 w5) := Lib.hid (HB.out.trans (hb5.mono HB.out.size))
      have HO5 : Hid (OR encU 1 w1.heap.size 30 w5 v (partF st lp a i)) := Lib.hid (OR.below HO.out hb5)
      clear hb5 y1 y2
      obtain ⟨z, HZ⟩ : ∃ z, Hid (atF st lp (k : Int) = z) := ⟨_, Lib.hid rfl⟩
      rw [HZ.out]
      go_wp2_with (first
        | (at_builtin; refine list_append_own encU_len encU_one Try.underlying22 infoU rfl (by decide) (by decide) w1.heap.size _ rfl (.tmp 15) (.tmp 19) rfl rfl _ (partF st lp a i) rfl (World.ownsRow.alloc HO5.out _) z _ rfl rfl HL.out (by have := HB5.out.size; simp; omega) _ (World.alloc_heap_new _ _) ?_; intro v6 w6 ho6 hb6 _; have HO6 := Lib.hid ho6; have HB6 : Hid (Below w1.heap.size w1 w6) := Lib.hid ((HB5.out.alloc HB5.out.size _).trans hb6); clear ho6 hb6)
        | fail)
      have h6 := HO6.out
      rw [← HZ.out, ← HK.out, ← part_snoc] at h6
      exact ⟨⟨i + 1, _, by omega, by rw [← HK.out]; go_num, rfl, Lib.hid h6, HB6⟩, by simp [intOf]; omega⟩
    · have hki : ¬ (k : Int) < b := by omega
      have HIB : Hid (b - a = i) := Lib.hid (by omega)
      go_wp2
      go_ret
      obtain ⟨A7, c7, e7, g1, g2, g3, g4⟩ := or_ua HO.out
      rw [HIB.out]
      refine ⟨(part_len _ _ _ _).symm, A7, c7, by rw [e7, part_len]; rfl, g3, by rw [part_len] at g1; exact g1, g2, HB1.out.trans (HB.out.mono HB1.out.size), fun q hq => Nat.le_trans HB1.out.size (g4 q hq)⟩
end Go.Proofs.Ytophajljjnjcdaa.wd
