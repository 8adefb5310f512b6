/- Untils: the program's and the document's. -/
import Derived.Test.YthkfjiengemcfaaLtlRefused
import Derived.Test.YthkfjiengemcfaaLtlParts
namespace Go.Proofs.Ythkfjiengemcfaa.lt
open Go.ChangeShapes Go.WideShapes Go.ChangeAt Go.RowKit

set_option maxRecDepth 20000 in
set_option maxHeartbeats 4000000 in
theorem untils_any (e : List (Int × Int)) (A : Option Addr) (c m : Nat) (w : World) (hm : m = e.length) (hm2 : m ≤ 1000) (hA : PA w A e) :
    Calls Try.prog 16 #[.slice A m c] w (RowP w (untilsF e)) := by
  have HM := Lib.hid hm
  have HA := Lib.hid hA
  have HK := Lib.hid (wn.refused_any e A c m w hm hA hm2)
  clear hm hA
  obtain ⟨z, HZ⟩ : ∃ z, Hid (wrF 0 e = z) := ⟨_, Lib.hid rfl⟩
  go_enter Try.func16, Try.ntmps16
  go_wp2_with fail
  refine HK.out.mono ?_
  rintro x w1 ⟨rfl, hb1⟩
  have HB1 := Lib.hid hb1
  rw [HZ.out]
  clear hb1 HK
  by_cases hz : z = 0
  · subst hz
    have HU : Hid (untilsF e = utK e m) := Lib.hid (by unfold untilsF; rw [if_pos (isF_iff.2 HZ.out), HM.out])
    have HA1 : Hid (PA w1 A e) := Lib.hid (HA.out.below HB1.out)
    go_wp2
    go_loopw [3, 11] (fun lv iv wr => ∃ (i n : Nat) (B : Option Addr) (d : Nat), i ≤ m ∧ iv = .int .i64 i ∧ lv = .slice B n d ∧ Hid (n = (utK e i).length) ∧ Hid (OI w1.heap.size wr (.slice B n d) (utK e i)) ∧ Hid (Below w1.heap.size w1 wr)) (fun _ iv _ => m - (intOf iv).toNat)
    case atStart => exact ⟨0, 0, none, 0, Nat.zero_le _, rfl, rfl, Lib.hid rfl, Lib.hid (OI.nil _ _), Lib.hid (Below.refl _ _)⟩
    case round =>
      obtain ⟨i, n, B, d, hi, rfl, rfl, HN, HO, HB⟩ := hrel
      by_cases hlt : i < m
      · obtain ⟨b, o, rfl, hb, hc⟩ := (HA1.out.below HB.out) (by rw [← HM.out]; omega)
        obtain ⟨c1, c2⟩ := hc i (by rw [← HM.out]; exact hlt)
        obtain ⟨op, q, HND⟩ : ∃ op q, Hid (e.getD i (0, 0) = (op, q)) := ⟨_, _, Lib.hid rfl⟩
        rw [HND.out] at c1 c2
        simp only at c1 c2
        clear hc
        have HNL : Hid (n ≤ i) := Lib.hid (by rw [HN.out]; exact utK_len e i)
        have hwz : w1.heap.size ≤ wr.heap.size := HB.out.size
        by_cases h9 : op = 9
        · subst h9
          have HU1 : Hid (utK e (i + 1) = utK e i ++ [(i : Int)]) := Lib.hid (by show (if _ then _ else _) = _; rw [HND.out, if_pos rfl])
          have HL1 : Hid ((utK e i ++ [(i : Int)]).length = n + 1) := Lib.hid (by rw [List.length_append, ← HN.out]; rfl)
          obtain ⟨w5, HW5⟩ : ∃ w5, w5 = wr.alloc (.cells #[.int .i64 9, .int .i64 q] 34) := ⟨_, rfl⟩
          have HO1 : Hid (OI w1.heap.size w5 (.slice B n d) (utK e i)) := Lib.hid (by rw [HW5]; exact HO.out.below (below_one _ _))
          have HB2 : Hid (Below w1.heap.size w1 w5) := Lib.hid (by rw [HW5]; exact HB.out.alloc hwz _)
          have hwz2 : w1.heap.size ≤ w5.heap.size := HB2.out.size
          go_upto_region 8 with (fail)
          rw [← HW5]
          clear HW5 c1 c2
          go_wp2_with (at_builtin; refine append_one rfl (.tmp 19) (.tmp 21) rfl w1.heap.size _ (utK e i) rfl HO1.out (i : Int) rfl (by have := HNL.out; have := HN.out; omega) hwz2 ?_; intro v4 w4 ho4 hb4; obtain ⟨A4, c4, rfl, _⟩ := ho4.form; rw [HL1.out] at ho4 ⊢; have HO4 := Lib.hid ho4; have HB4 := Lib.hid hb4; clear ho4 hb4)
          go_roundw
          case rel => exact ⟨i + 1, n + 1, A4, c4, by omega, by go_num, rfl, Lib.hid (by rw [HU1.out, HL1.out]), Lib.hid (by rw [HU1.out]; exact HO4.out), Lib.hid (HB2.out.trans (HB4.out.mono (Nat.le_refl _)))⟩
          case measure => simp [intOf]; omega
        · have HU1 : Hid (utK e (i + 1) = utK e i) := Lib.hid (by show (if _ then _ else _) = _; rw [HND.out, if_neg h9])
          go_wp2
          go_roundw
          case rel => exact ⟨i + 1, n, B, d, by omega, by go_num, rfl, Lib.hid (by rw [HU1.out, ← HN.out]), Lib.hid (by rw [HU1.out]; exact HO.out.below (below_one _ _)), Lib.hid (HB.out.alloc hwz _)⟩
          case measure => simp [intOf]; omega
      · obtain rfl : i = m := by omega
        go_wp2
        go_ret
        obtain ⟨A5, c5, f5, i5, _⟩ := HO.out.ins
        rw [← HN.out] at f5
        injection f5 with f5 _ f6
        subst f5 f6
        exact ⟨_, _, by rw [HU.out, ← HN.out]; rfl, by rw [HU.out]; exact i5, HB1.out.trans (HB.out.mono HB1.out.size)⟩
  · have hz2 : (z != 0) = true := by simpa using hz
    have HU : Hid (untilsF e = []) := Lib.hid (by unfold untilsF; rw [if_neg (fun h => hz (by rw [← HZ.out]; exact isF_iff.1 h))])
    go_wp2
    go_ret
    exact RowP.nil HU.out HB1.out
set_option maxRecDepth 20000 in
set_option maxHeartbeats 4000000 in
theorem refUntils_any (e : List (Int × Int)) (A : Option Addr) (c m : Nat) (w : World) (hm : m = e.length) (hm2 : m ≤ 1000) (hA : PA w A e) :
    Calls Try.prog 17 #[.slice A m c] w (RowP w (untilsF e)) := by
  have HM := Lib.hid hm
  have HA := Lib.hid hA
  have HK := Lib.hid (refIs_any e A c m w hm hm2 hA)
  clear hm hA
  obtain ⟨z, HZ⟩ : ∃ z, Hid (isF e = z) := ⟨_, Lib.hid rfl⟩
  go_enter Try.func17, Try.ntmps17
  go_wp2_with fail
  refine HK.out.mono ?_
  rintro x w1 ⟨rfl, rfl⟩
  rw [HZ.out]
  clear HK
  cases z with
  | true =>
    have HU : Hid (untilsF e = utK e m) := Lib.hid (by unfold untilsF; rw [if_pos HZ.out, HM.out])
    go_wp2
    go_loopw [3, 4] (fun lv iv wr => ∃ (i n : Nat) (B : Option Addr) (d : Nat), i ≤ m ∧ iv = .int .i64 i ∧ lv = .slice B n d ∧ Hid (n = (utK e i).length) ∧ Hid (OI w.heap.size wr (.slice B n d) (utK e i)) ∧ Hid (Below w.heap.size w wr)) (fun _ iv _ => m - (intOf iv).toNat)
    case atStart => exact ⟨0, 0, none, 0, Nat.zero_le _, rfl, rfl, Lib.hid rfl, Lib.hid (OI.nil _ _), Lib.hid (Below.refl _ _)⟩
    case round =>
      obtain ⟨i, n, B, d, hi, rfl, rfl, HN, HO, HB⟩ := hrel
      by_cases hlt : i < m
      · obtain ⟨b, o, rfl, hb, hc⟩ := (HA.out.below HB.out) (by rw [← HM.out]; omega)
        obtain ⟨c1, _⟩ := hc i (by rw [← HM.out]; exact hlt)
        obtain ⟨op, q, HND⟩ : ∃ op q, Hid (e.getD i (0, 0) = (op, q)) := ⟨_, _, Lib.hid rfl⟩
        rw [HND.out] at c1
        simp only at c1
        clear hc
        have HNL : Hid (n ≤ i) := Lib.hid (by rw [HN.out]; exact utK_len e i)
        have hwz : w.heap.size ≤ wr.heap.size := HB.out.size
        by_cases h9 : op = 9
        · subst h9
          have HU1 : Hid (utK e (i + 1) = utK e i ++ [(i : Int)]) := Lib.hid (by show (if _ then _ else _) = _; rw [HND.out, if_pos rfl])
          have HL1 : Hid ((utK e i ++ [(i : Int)]).length = n + 1) := Lib.hid (by rw [List.length_append, ← HN.out]; rfl)
          go_wp2_with (at_builtin; refine append_one rfl (.tmp 21) (.tmp 23) rfl w.heap.size _ (utK e i) rfl HO.out (i : Int) rfl (by have := HNL.out; have := HN.out; omega) hwz ?_; intro v4 w4 ho4 hb4; obtain ⟨A4, c4, rfl, _⟩ := ho4.form; rw [HL1.out] at ho4 ⊢; have HO4 := Lib.hid ho4; have HB4 := Lib.hid hb4; clear ho4 hb4)
          go_roundw
          case rel => exact ⟨i + 1, n + 1, A4, c4, by omega, by go_num, rfl, Lib.hid (by rw [HU1.out, HL1.out]), Lib.hid (by rw [HU1.out]; exact HO4.out), Lib.hid (HB.out.trans (HB4.out.mono (Nat.le_refl _)))⟩
          case measure => simp [intOf]; omega
        · have HU1 : Hid (utK e (i + 1) = utK e i) := Lib.hid (by show (if _ then _ else _) = _; rw [HND.out, if_neg h9])
          go_wp2
          go_roundw
          case rel => exact ⟨i + 1, n, B, d, by omega, by go_num, rfl, Lib.hid (by rw [HU1.out, ← HN.out]), Lib.hid (by rw [HU1.out]; exact HO.out), HB⟩
          case measure => simp [intOf]; omega
      · obtain rfl : i = m := by omega
        go_wp2
        go_ret
        obtain ⟨A5, c5, f5, i5, _⟩ := HO.out.ins
        rw [← HN.out] at f5
        injection f5 with f5 _ f6
        subst f5 f6
        exact ⟨_, _, by rw [HU.out, ← HN.out]; rfl, by rw [HU.out]; exact i5, HB.out⟩
  | false =>
    have HU : Hid (untilsF e = []) := Lib.hid (by unfold untilsF; rw [HZ.out]; rfl)
    go_wp2
    go_ret
    exact RowP.nil HU.out (Below.refl _ _)
end Go.Proofs.Ythkfjiengemcfaa.lt
