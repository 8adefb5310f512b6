/- The law DeclNames, walked. -/
import Derived.Test.YtodloljpfbkkjaaRRRRNamesLight
import Derived.Deep.RegionHeld3
namespace Go.Proofs.YtodloljpfbkkjaaRRRR.declNames
open Go.ChangeShapes Go.WideShapes Go.ChangeAt Go.RowKit Go.Deep Go.Proofs.YtodloljpfbkkjaaRRRR.nms

set_option maxRecDepth 100000 in
set_option maxHeartbeats 8000000 in
theorem walk (X : MdX) (M : Md) (w : World) (h : MQ w X M) : Calls Try.prog 4 #[X.v] w (LawPost w) := by
  have HS := Lib.hid h
  clear h
  go_enter Try.func4, Try.ntmps4
  go_upto_region 1 with (fail)
  obtain ⟨w1, HW1⟩ : ∃ w1, w1 = w.alloc (.cells #[.slice X.a1 X.n1 X.c1, .slice X.a2 X.n2 X.c2, .slice X.a3 X.n3 X.c3, .slice X.a4 X.n4 X.c4, .slice X.a5 X.n5 X.c5] 45) := ⟨_, rfl⟩
  have HM1 : Hid (BM w1 w.heap.size X) := Lib.hid (by rw [HW1]; exact BM.new _ _ _)
  have HBW : Hid (Below w.heap.size w w1) := Lib.hid (by rw [HW1]; exact below_alloc1 _ _)
  rw [← HW1]
  clear HW1
  have HS1 := Lib.hid (HS.out.below HBW.out)
  obtain ⟨⟨m0, m1, m2, m3, m4⟩, mz⟩ := HM1.out
  go_wp2_with fail
  refine (light_any X M _ HS1.out).mono ?_
  rintro e w2 ⟨r, rfl, hf, hb⟩
  have HF := Lib.hid hf
  have HB := Lib.hid hb
  clear hf hb m0 m1 m2 m3 m4 mz
  have HM2 := Lib.hid (HM1.out.below HB.out)
  cases r
  · go_wp2_with fail
    refine (dcl.awake_any _).mono ?_
    rintro e w3 ⟨rfl, hb3⟩
    have HB3 := Lib.hid hb3
    clear hb3
    go_wp2
    go_ret
    exact ⟨rfl, bthen HBW.out (bthen HB.out HB3.out)⟩
  · have HFEW := Lib.hid (HF.out rfl)
    have HQ2 := Lib.hid (HS1.out.below HB.out)
    have HP2 := Lib.hid (HQ2.out.mp HFEW.out)
    have HALL : Hid (M.all.length ≤ 1000) := Lib.hid (HQ2.out.few HFEW.out)
    obtain ⟨⟨m0, m1, m2, m3, m4⟩, mz⟩ := HM2.out
    go_upto_region 3 with (fail)
    go_cut [3, 4] from 300 (fun v3 v4 w' => ∃ (A : Option Addr) (c : Nat) (B : Option Addr) (d : Nat), v3 = .slice A M.all.length c ∧ v4 = .slice B M.all.length d ∧ Hid (TA w' A M.all) ∧ Hid (TA w' B M.all) ∧ Hid (Below w2.heap.size w2 w'))
    case first =>
      go_region_held3 (fun w' => w'.cell? ⟨w.heap.size, 0, none⟩ = some (.slice X.a1 X.n1 X.c1) ∧ w'.cell? ⟨w.heap.size, 1, none⟩ = some (.slice X.a2 X.n2 X.c2) ∧ w'.cell? ⟨w.heap.size, 2, none⟩ = some (.slice X.a3 X.n3 X.c3) ∧ w'.cell? ⟨w.heap.size, 3, none⟩ = some (.slice X.a4 X.n4 X.c4) ∧ w'.cell? ⟨w.heap.size, 4, none⟩ = some (.slice X.a5 X.n5 X.c5))
        (first | exact ⟨m0, m1, m2, m3, m4⟩ | exact HKA.out.1 | exact HKB.out.1 | go_keep)
        (first
          | (go_at_call 12; refine (names_any X M _ (HP2.out.below (by first | exact (Below.refl _ _).drew | exact HB8.out | exact HB8.out.drew | exact Below.refl _ _)) (by have := HALL.out; omega)).mono ?_; rintro e w7 ⟨A7, c7, rfl, ht7, hb7⟩; have HT7 := Lib.hid ht7; have HBs7 := Lib.hid hb7; have HB7 : Hid (Below w2.heap.size w2 w7) := Lib.hid (by first | exact bthen ((Below.refl _ w2).drew) hb7 | exact bthen HB8.out hb7 | exact bthen HB8.out.drew hb7 | exact hb7); have HKA : Hid (BM w7 w.heap.size X) := Lib.hid (HM2.out.below HB7.out); clear ht7 hb7)
          | (go_at_call 13; refine (refNames_any X M _ (HP2.out.below (by first | exact (Below.refl _ _).drew | exact HB7.out | exact HB7.out.drew | exact Below.refl _ _)).mr (by have := HALL.out; omega)).mono ?_; rintro e w8 ⟨A8, c8, rfl, ht8, hb8⟩; have HT8 := Lib.hid ht8; have HBs8 := Lib.hid hb8; have HB8 : Hid (Below w2.heap.size w2 w8) := Lib.hid (by first | exact bthen ((Below.refl _ w2).drew) hb8 | exact bthen HB7.out hb8 | exact bthen HB7.out.drew hb8 | exact hb8); have HKB : Hid (BM w8 w.heap.size X) := Lib.hid (HM2.out.below HB8.out); clear ht8 hb8))
      all_goals
        go_wp2
        go_meet
        case rel =>
          first
            | exact ⟨_, _, _, _, rfl, rfl, Lib.hid (HT7.out.below HBs8.out), HT8, HB8⟩
            | exact ⟨_, _, _, _, rfl, rfl, HT7, Lib.hid (HT8.out.below HBs7.out), HB7⟩
    case rest =>
      obtain ⟨A, c, B, d, rfl, rfl, HTA, HTB, HBC⟩ := hcut
      clear m0 m1 m2 m3 m4 mz
      have hsz : M.all.length ≤ 1000 := HALL.out
      go_wp2
      go_loopw [5] (fun iv wr => ∃ k : Nat, k ≤ M.all.length ∧ iv = .int .i64 k ∧ Hid (Below w2.heap.size w2 wr) ∧ Hid (TA wr A M.all) ∧ Hid (TA wr B M.all)) (fun iv _ => M.all.length - (intOf iv).toNat)
      case atStart => exact ⟨0, Nat.zero_le _, rfl, HBC, HTA, HTB⟩
      case round =>
        obtain ⟨k, hk, rfl, HBk, HA, HC⟩ := hrel
        by_cases hlt : k < M.all.length
        · obtain ⟨b1, o1, hA1, hz1, hc1⟩ := HA.out (by omega)
          obtain ⟨b2, o2, hA2, hz2, hc2⟩ := HC.out (by omega)
          have c1 := hc1 k hlt
          have c2 := hc2 k hlt
          have HA1 := Lib.hid hA1
          have HA2 := Lib.hid hA2
          clear hc1 hc2 hA1 hA2
          generalize M.all.getD k default = x at c1 c2
          have hi0 : (0 : Int) ≤ (k : Int) := by omega
          have hi9 : (k : Int) < (M.all.length : Int) := by omega
          rw [HA1.out, HA2.out]
          go_wp2
          go_quiet (fail)
          go_wp2
          go_roundw
          case rel => exact ⟨k + 1, by omega, by go_num, Lib.hid (below_drewN HBk.out _), Lib.hid (by first | exact HA.out.below (below_drewN (Below.refl _ _) _) | (rw [← HA1.out]; exact HA.out.below (below_drewN (Below.refl _ _) _))), Lib.hid (by first | exact HC.out.below (below_drewN (Below.refl _ _) _) | (rw [← HA2.out]; exact HC.out.below (below_drewN (Below.refl _ _) _)))⟩
          case measure => simp [intOf]; omega
        · obtain rfl : k = M.all.length := by omega
          go_wp2_with fail
          refine (dcl.awake_any _).mono ?_
          rintro e w3 ⟨rfl, hb3⟩
          have HB3 := Lib.hid hb3
          clear hb3
          go_wp2
          go_ret
          exact ⟨rfl, bthen HBW.out (bthen HB.out (bthen HBk.out HB3.out))⟩
end Go.Proofs.YtodloljpfbkkjaaRRRR.declNames
