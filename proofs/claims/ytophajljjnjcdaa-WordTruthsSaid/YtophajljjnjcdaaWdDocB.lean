/- The document's leaf. -/
import Derived.Test.YtophajljjnjcdaaWdDocA
import Derived.Deep.RegionHeld3
import Derived.Deep.RegionLaw
namespace Go.Proofs.Ytophajljjnjcdaa.wd
open Go.ChangeShapes Go.WideShapes Go.ChangeAt Go.RowKit Go.Deep sr lt nf

theorem bit_mod {z : Int} (m : Nat) (h0 : 0 ≤ z) : ((z / 2 ^ m).tmod 2 == 1) = bitF z m := by
  obtain ⟨k, rfl⟩ : ∃ k : Nat, z = k := ⟨z.toNat, by omega⟩
  have e1 : ((k : Int) / 2 ^ m) = ((k / 2 ^ m : Nat) : Int) := by push_cast; rfl
  rw [e1, Int.tmod_eq_emod_of_nonneg (Int.natCast_nonneg _)]
  unfold bitF
  rw [Int.toNat_natCast, Int.toNat_natCast]
  generalize k / 2 ^ m = d
  have h2 : d % 2 = 0 ∨ d % 2 = 1 := by omega
  rcases h2 with h2 | h2
  · rw [h2, show ((d : Int) % 2) = 0 by omega]; rfl
  · rw [h2, show ((d : Int) % 2) = 1 by omega]; rfl
theorem at_setsX {x : WX} {st lp sets : List Int} {w : World} {n : Nat} (hX : WdR w x st lp) (hn : x.n + x.m = n) (h0 : 0 < x.m) (hs : st ++ lp = sets) {k : Nat} (hk : k < n) : atF st lp k = sets.getD k 0 ∧ 0 ≤ atF st lp k ∧ atF st lp k < 18446744073709551616 := by
  have h1 := hX.n1
  have h2 := hX.n2
  unfold atF
  rw [if_neg (by omega), Int.toNat_natCast]
  by_cases h : k < st.length
  · rw [if_pos h, ← hs]
    exact ⟨by simp [List.getD, List.getElem?_append_left h], hX.u1 k h⟩
  · rw [if_neg h, if_neg (by omega), ← hs, Nat.mod_eq_of_lt (by omega)]
    exact ⟨by simp [List.getD, List.getElem?_append_right (show st.length ≤ k by omega)], hX.u2 _ (by omega)⟩
set_option maxRecDepth 20000 in
set_option maxHeartbeats 8000000 in
theorem refLeaf_any (x : WX) (st lp sets : List Int) (op N : Int) (n : Nat) (w : World) (hX : WdR w x st lp) (hn : x.n + x.m = n) (h0 : 0 < x.m) (hs : st ++ lp = sets) (hop : op = 1 ∨ op = 2 ∨ op = 3) (hN : op = 3 → 0 ≤ N ∧ N < 8) :
    Calls Try.prog 32 #[.agg #[.int .i64 op, .int .i64 N], x.v] w (OwnN w n (plF (op, N) sets x.n [] [])) := by
  have hsl : sets.length = n := by rw [← hs, List.length_append]; have := hX.n1; have := hX.n2; omega
  have hn2 : n ≤ 2000 := by have := hX.b1; have := hX.b2; omega
  have hn0 : 0 < n := by omega
  have HLN := Lib.hid (fun W => refLen_any x W hX.b1 hX.b2)
  rw [hn] at HLN
  have HAT := Lib.hid (fun (k : Nat) W (hW : Below w.heap.size w W) (hk : k < n) => refAt_any x st lp k W (hX.below hW) (by omega) (by omega))
  have HAS := Lib.hid (fun k (hk : k < n) => at_setsX hX hn h0 hs hk)
  obtain ⟨L, HL⟩ : ∃ L, Hid (plF (op, N) sets x.n [] [] = L) := ⟨_, Lib.hid rfl⟩
  have HLE : Hid (L = (List.range n).map (oneF (op, N) sets x.n [] [])) := Lib.hid (by rw [← HL.out, pl_one (by dsimp only; omega), hsl])
  have HLL : Hid (L.length = n) := Lib.hid (by rw [HLE.out]; simp)
  have HLG : Hid (∀ k, k < n → L.getD k false = oneF (op, N) sets x.n [] [] k) := Lib.hid (fun k hk => by rw [HLE.out]; simp [List.getD, hk])
  rw [HL.out]
  clear HL HLE hX hn hs hsl
  obtain ⟨P, s, pc, Q, q, qc⟩ := x
  unfold WX.v at HLN HAT ⊢
  dsimp only at h0 HLN HAT HAS HLG ⊢
  obtain ⟨w1, HW1, HB1, HBX⟩ : ∃ w1, (w.alloc (.cells #[.int .i64 op, .int .i64 N] 44)).alloc (.cells #[.slice P s pc, .slice Q q qc] 24) = w1 ∧ Hid (Below w.heap.size w w1) ∧ Hid (∀ W, Below w1.heap.size w1 W → W.cell? ⟨w.heap.size, 0, none⟩ = some (.int .i64 op) ∧ W.cell? ⟨w.heap.size, 1, none⟩ = some (.int .i64 N) ∧ W.cell? ⟨w.heap.size + 1, 0, none⟩ = some (.slice P s pc) ∧ W.cell? ⟨w.heap.size + 1, 1, none⟩ = some (.slice Q q qc)) := by
    obtain ⟨u1, hu1⟩ : ∃ u1, w.alloc (.cells #[.int .i64 op, .int .i64 N] 44) = u1 := ⟨_, rfl⟩
    have s1 : u1.heap.size = w.heap.size + 1 := by rw [← hu1]; simp
    have q1 : Below w.heap.size w u1 := by rw [← hu1]; exact below_one _ _
    obtain ⟨u2, hu2⟩ : ∃ u2, u1.alloc (.cells #[.slice P s pc, .slice Q q qc] 24) = u2 := ⟨_, rfl⟩
    have s2 : u2.heap.size = w.heap.size + 2 := by rw [← hu2]; simp [s1]
    have q2 : Below u1.heap.size u1 u2 := by rw [← hu2]; exact below_one _ _
    refine ⟨u2, by rw [hu1, hu2], Lib.hid (q1.trans (q2.mono q1.size)), Lib.hid (fun W h => ⟨?_, ?_, ?_, ?_⟩)⟩
    · exact (h.cell (p := ⟨w.heap.size, 0, none⟩) (by show w.heap.size < _; omega)).trans ((q2.cell (p := ⟨w.heap.size, 0, none⟩) (by show w.heap.size < _; omega)).trans (by rw [← hu1]; exact World.cell?_alloc_at _ _ _ _ (by simp)))
    · exact (h.cell (p := ⟨w.heap.size, 1, none⟩) (by show w.heap.size < _; omega)).trans ((q2.cell (p := ⟨w.heap.size, 1, none⟩) (by show w.heap.size < _; omega)).trans (by rw [← hu1]; exact World.cell?_alloc_at _ _ _ _ (by simp)))
    · exact (h.cell (p := ⟨w.heap.size + 1, 0, none⟩) (by show w.heap.size + 1 < _; omega)).trans (by rw [← hu2, ← s1]; exact World.cell?_alloc_at _ _ _ _ (by simp))
    · exact (h.cell (p := ⟨w.heap.size + 1, 1, none⟩) (by show w.heap.size + 1 < _; omega)).trans (by rw [← hu2, ← s1]; exact World.cell?_alloc_at _ _ _ _ (by simp))
  have HWZ : Hid (Below w1.heap.size w1 w1) := Lib.hid (Below.refl _ _)
  have HFI := Lib.hid (fun v W => refFill_any n v W hn2)
  rcases hop with rfl | rfl | rfl
  · clear hN HAT HAS
    go_enter Try.func32, Try.ntmps32
    go_upto_region 1 with (fail)
    clear HW1
    obtain ⟨g1, g2, g3, g4⟩ := HBX.out w1 HWZ.out
    go_region_held3 (fun W => W.cell? ⟨w.heap.size, 0, none⟩ = some (.int .i64 1) ∧ W.cell? ⟨w.heap.size + 1, 0, none⟩ = some (.slice P s pc) ∧ W.cell? ⟨w.heap.size + 1, 1, none⟩ = some (.slice Q q qc))
      (first | exact ⟨(HBX.out _ HWZ.out).1, (HBX.out _ HWZ.out).2.2⟩ | exact ⟨(HBX.out _ HWZ.out.drew).1, (HBX.out _ HWZ.out.drew).2.2⟩ | exact ⟨(HBX.out _ HB5.out).1, (HBX.out _ HB5.out).2.2⟩ | exact ⟨(HBX.out _ HB6.out).1, (HBX.out _ HB6.out).2.2⟩ | go_keep)
      (first
        | (go_at_call 49; refine (HFI.out _ w5).mono ?_; rintro e6 w6 ⟨_, p6, rfl, hp6, hr6, hb6⟩; have HB6 : Hid (Below w1.heap.size w1 w6) := Lib.hid (HB5.out.trans (hb6.mono HB5.out.size)); have HR6 := Lib.hid hr6; have HP6 : Hid (w1.heap.size ≤ p6) := Lib.hid (Nat.le_trans HB5.out.size hp6); clear hb6 hr6 hp6)
        | (go_at_call 13; refine (HLN.out _).mono ?_; rintro e5 w5 ⟨rfl, hb5⟩; have HB5 : Hid (Below w1.heap.size w1 w5) := Lib.hid (by first | exact HWZ.out.drew.trans hb5 | exact hb5); clear hb5)
        | fail)
    all_goals
      have hr := HR6.out.congr (g := fun j => .bool (L.getD j false)) (fun j hj => by rw [HLG.out j hj]; simp [List.getD, hj, oneF])
      have HRR := Lib.hid hr
      clear hr
      obtain ⟨q1, q2, q3, q4⟩ := HBX.out w6 HB6.out
      have hn0i : (0 : Int) < n := by omega
      go_wp2
      go_loopw [6] (fun iv wr => iv = .int .i64 0 ∧ w6 = wr) (fun _ _ => 0)
      case atStart => exact ⟨rfl, rfl⟩
      case round =>
        obtain ⟨rfl, rfl⟩ := hrel
        go_wp2
        go_ret
        exact ⟨HLL.out, p6, rfl, by have := HB1.out.size; have := HP6.out; omega, HRR.out, HB1.out.trans (HB6.out.mono HB1.out.size)⟩
  · clear hN HAT HAS
    go_enter Try.func32, Try.ntmps32
    go_upto_region 1 with (fail)
    clear HW1
    obtain ⟨g1, g2, g3, g4⟩ := HBX.out w1 HWZ.out
    go_region_held3 (fun W => W.cell? ⟨w.heap.size, 0, none⟩ = some (.int .i64 2) ∧ W.cell? ⟨w.heap.size + 1, 0, none⟩ = some (.slice P s pc) ∧ W.cell? ⟨w.heap.size + 1, 1, none⟩ = some (.slice Q q qc))
      (first | exact ⟨(HBX.out _ HWZ.out).1, (HBX.out _ HWZ.out).2.2⟩ | exact ⟨(HBX.out _ HWZ.out.drew).1, (HBX.out _ HWZ.out.drew).2.2⟩ | exact ⟨(HBX.out _ HB5.out).1, (HBX.out _ HB5.out).2.2⟩ | exact ⟨(HBX.out _ HB6.out).1, (HBX.out _ HB6.out).2.2⟩ | go_keep)
      (first
        | (go_at_call 49; refine (HFI.out _ w5).mono ?_; rintro e6 w6 ⟨_, p6, rfl, hp6, hr6, hb6⟩; have HB6 : Hid (Below w1.heap.size w1 w6) := Lib.hid (HB5.out.trans (hb6.mono HB5.out.size)); have HR6 := Lib.hid hr6; have HP6 : Hid (w1.heap.size ≤ p6) := Lib.hid (Nat.le_trans HB5.out.size hp6); clear hb6 hr6 hp6)
        | (go_at_call 13; refine (HLN.out _).mono ?_; rintro e5 w5 ⟨rfl, hb5⟩; have HB5 : Hid (Below w1.heap.size w1 w5) := Lib.hid (by first | exact HWZ.out.drew.trans hb5 | exact hb5); clear hb5)
        | fail)
    all_goals
      have hr := HR6.out.congr (g := fun j => .bool (L.getD j false)) (fun j hj => by rw [HLG.out j hj]; simp [List.getD, hj, oneF])
      have HRR := Lib.hid hr
      clear hr
      obtain ⟨q1, q2, q3, q4⟩ := HBX.out w6 HB6.out
      have hn0i : (0 : Int) < n := by omega
      go_wp2
      go_loopw [6] (fun iv wr => iv = .int .i64 0 ∧ w6 = wr) (fun _ _ => 0)
      case atStart => exact ⟨rfl, rfl⟩
      case round =>
        obtain ⟨rfl, rfl⟩ := hrel
        go_wp2
        go_ret
        exact ⟨HLL.out, p6, rfl, by have := HB1.out.size; have := HP6.out; omega, HRR.out, HB1.out.trans (HB6.out.mono HB1.out.size)⟩
  · obtain ⟨N, rfl⟩ : ∃ m : Nat, N = m := ⟨N.toNat, by have := hN rfl; omega⟩
    have hN8 : N < 8 := by have := hN rfl; omega
    clear hN
    go_enter Try.func32, Try.ntmps32
    go_upto_region 1 with (fail)
    clear HW1
    obtain ⟨g1, g2, g3, g4⟩ := HBX.out w1 HWZ.out
    go_region_held3 (fun W => W.cell? ⟨w.heap.size, 0, none⟩ = some (.int .i64 3) ∧ W.cell? ⟨w.heap.size + 1, 0, none⟩ = some (.slice P s pc) ∧ W.cell? ⟨w.heap.size + 1, 1, none⟩ = some (.slice Q q qc))
      (first | exact ⟨(HBX.out _ HWZ.out).1, (HBX.out _ HWZ.out).2.2⟩ | exact ⟨(HBX.out _ HWZ.out.drew).1, (HBX.out _ HWZ.out.drew).2.2⟩ | exact ⟨(HBX.out _ HB5.out).1, (HBX.out _ HB5.out).2.2⟩ | exact ⟨(HBX.out _ HB6.out).1, (HBX.out _ HB6.out).2.2⟩ | go_keep)
      (first
        | (go_at_call 49; refine (HFI.out _ w5).mono ?_; rintro e6 w6 ⟨_, p6, rfl, hp6, hr6, hb6⟩; have HB6 : Hid (Below w1.heap.size w1 w6) := Lib.hid (HB5.out.trans (hb6.mono HB5.out.size)); have HR6 := Lib.hid hr6; have HP6 : Hid (w1.heap.size ≤ p6) := Lib.hid (Nat.le_trans HB5.out.size hp6); clear hb6 hr6 hp6)
        | (go_at_call 13; refine (HLN.out _).mono ?_; rintro e5 w5 ⟨rfl, hb5⟩; have HB5 : Hid (Below w1.heap.size w1 w5) := Lib.hid (by first | exact HWZ.out.drew.trans hb5 | exact hb5); clear hb5)
        | fail)
    all_goals
      go_wp2
      go_loopw [6] (fun iv wr => ∃ k : Nat, k ≤ n ∧ iv = .int .i64 k ∧ Hid (wr.rowIs p6 4 n (fstB L k)) ∧ Hid (Below w1.heap.size w1 wr)) (fun iv _ => n - (intOf iv).toNat)
      case atStart => exact ⟨0, Nat.zero_le _, rfl, Lib.hid (HR6.out.congr (fun j hj => by simp [fstB, List.getD, hj])), HB6⟩
      case round =>
        clear HR6 HB6
        obtain ⟨k, hk, rfl, HR, HB⟩ := hrel
        obtain ⟨g1, g2, g3, g4⟩ := HBX.out wr HB.out
        by_cases hlt : k < n
        · have hli : (k : Int) < n := by omega
          obtain ⟨a1, a2, a3⟩ := HAS.out k hlt
          have HAK := Lib.hid (fun W (hW : Below w1.heap.size w1 W) => HAT.out k W (HB1.out.trans (hW.mono HB1.out.size)) hlt)
          have hv : L.getD k false = bitF (atF st lp k) N := by rw [HLG.out k hlt, a1]; rfl
          obtain ⟨z, HZ⟩ : ∃ z, Hid (atF st lp k = z) := ⟨_, Lib.hid rfl⟩
          rw [HZ.out] at HAK hv a2 a3
          have hbm := bit_mod N a2
          obtain ⟨y, HY⟩ : ∃ y, Hid (bitF z N = y) := ⟨_, Lib.hid rfl⟩
          rw [HY.out] at hbm hv
          have HV := Lib.hid hv.symm
          clear a1 hv
          have hpp : w1.heap.size ≤ p6 := HP6.out
          go_wp2_with fail
          clear g1 g2 g3 g4
          obtain ⟨g1, g2, g3, g4⟩ := HBX.out wr HB.out
          refine wp_region_noPanic ?_
          go_region_law
            (first
              | (rw [if_pos (by kernel_rfl)]; go_simp; go_at_call 15; refine (HAK.out _ (by first | exact HB.out.drew | exact HB.out)).mono ?_; rintro e7 w7 ⟨rfl, hb7⟩; have HB7 : Hid (Below w1.heap.size w1 w7) := Lib.hid (HB.out.trans ((by first | exact (Below.refl wr.heap.size wr).drew.trans hb7 | exact hb7 : Below wr.heap.size wr w7).mono HB.out.size)); have HR7 : Hid (w7.rowIs p6 4 n (fstB L k)) := Lib.hid (HR.out.of_block ((by first | exact (Below.refl wr.heap.size wr).drew.trans hb7 | exact hb7 : Below wr.heap.size wr w7).block _ HR.out.lt)); have d1 := HR7.out.cell hlt; have f1 := HR7.out.frozen k; have hr2 := Lib.hid (fstB_step HR7.out HV.out); have hb2 : Hid (Below w1.heap.size w1 (w7.setCell ⟨p6, k, none⟩ (.bool y))) := Lib.hid (HB7.out.setCell (show w1.heap.size ≤ (⟨p6, k, none⟩ : Addr).block from HP6.out) _); obtain ⟨q1, q2, q3, q4⟩ := HBX.out w7 HB7.out; generalize fstB L k k = u at d1; clear hb7)
              | fail)
          all_goals
            refine NoPanic.normal ?_
            go_wp2
            go_roundw
            case rel => rw [Nat.min_eq_left (show N ≤ 64 by omega), hbm]; exact ⟨k + 1, by omega, by go_num, hr2, hb2⟩
            case measure => simp [intOf]; omega
        · obtain rfl : k = n := by omega
          go_wp2
          go_ret
          exact ⟨HLL.out, p6, rfl, by have := HB1.out.size; have := HP6.out; omega, fstB_full HR.out, HB1.out.trans (HB.out.mono HB1.out.size)⟩
end Go.Proofs.Ytophajljjnjcdaa.wd
