/- Graphs: the document's Check. -/
import Derived.Test.YtnfiohekdbjgoaaGraphCheck
namespace Go.Proofs.Ytnfiohekdbjgoaa
open Go.ChangeShapes Go.WideShapes Go.ChangeAt Go.RowKit

theorem refCheck_many (v1 v3 : Value) (A2 : Option Addr) (c2 n2 : Nat) (w : World) (h : 65536 < n2) (hn : n2 ≤ maxLen) : Calls Try.prog 18 #[.agg #[v1, .slice A2 n2 c2, v3]] w fun e w' => e = .returned (.int .i64 11) ∧ Below w.heap.size w w' := by
  unfold maxLen at hn
  go_enter Try.func18, Try.ntmps18
  go_wp2
  go_ret
  exact ⟨rfl, (Below.refl _ w).alloc (Nat.le_refl _) _⟩
theorem refCheck_form (v1 : Value) (A2 A3 : Option Addr) (c2 c3 n2 n3 : Nat) (w : World) (h : n2 ≤ 65536) (hne : n3 ≠ n2) : Calls Try.prog 18 #[.agg #[v1, .slice A2 n2 c2, .slice A3 n3 c3]] w fun e w' => e = .returned (.int .i64 3) ∧ Below w.heap.size w w' := by
  have hd : decide ((65536 : Int) < (n2 : Int)) = false := by simp; omega
  have hd2 : ((n3 : Int) != (n2 : Int)) = true := by simp; omega
  clear hne
  go_enter Try.func18, Try.ntmps18
  go_wp2
  go_ret
  exact ⟨rfl, (Below.refl _ w).alloc (Nat.le_refl _) _⟩
set_option maxRecDepth 100000 in
set_option maxHeartbeats 4000000 in
theorem refCheck_rest (A1 A2 A3 : Option Addr) (c1 c2 c3 n : Nat) (init : List Int) (rows : List (List (Int × Int))) (w : World) (h : n ≤ 65536) (hN : rows.length = n) (h1 : init.length ≤ maxLen) (hI : LA .i64 w A1 init) (hR : RA w A2 rows) :
    Calls Try.prog 18 #[.agg #[.slice A1 init.length c1, .slice A2 n c2, .slice A3 n c3]] w fun e w' => e = .returned (.int .i64 (chkR n init rows)) ∧ Below w.heap.size w w' := by
  have HN := Lib.hid hN
  have HI := Lib.hid hI
  have HR := Lib.hid hR
  obtain ⟨m, HM⟩ : ∃ m, Hid (init.length = m) := ⟨_, Lib.hid rfl⟩
  rw [HM.out] at h1 ⊢
  unfold maxLen at h1
  have hd : decide ((65536 : Int) < (n : Int)) = false := by simp; omega
  clear hN hI hR
  go_enter Try.func18, Try.ntmps18
  go_wp2_with fail
  obtain ⟨p0, p1, p2⟩ := box3 w (.slice A1 m c1) (.slice A2 n c2) (.slice A3 n c3) 26
  have hz : (w.alloc (.cells #[.slice A1 m c1, .slice A2 n c2, .slice A3 n c3] 26)).heap.size = w.heap.size + 1 := by simp
  have hB0 : Below w.heap.size w (w.alloc (.cells #[.slice A1 m c1, .slice A2 n c2, .slice A3 n c3] 26)) := (Below.refl _ w).alloc (Nat.le_refl _) _
  have HB := Lib.hid hB0
  have HI2 := Lib.hid (HI.out.below hB0)
  have HR2 := Lib.hid (HR.out.below hB0)
  clear hB0 HI HR
  generalize w.alloc (.cells #[.slice A1 m c1, .slice A2 n c2, .slice A3 n c3] 26) = W at *
  have HP : Hid (∀ V, Below W.heap.size W V → V.cell? ⟨w.heap.size, 0, none⟩ = some (.slice A1 m c1) ∧ V.cell? ⟨w.heap.size, 1, none⟩ = some (.slice A2 n c2) ∧ V.cell? ⟨w.heap.size, 2, none⟩ = some (.slice A3 n c3)) := Lib.hid (fun V hV =>
    ⟨(hV.cell (p := ⟨w.heap.size, 0, none⟩) (lt_of_cell p0)).trans p0, (hV.cell (p := ⟨w.heap.size, 1, none⟩) (lt_of_cell p1)).trans p1, (hV.cell (p := ⟨w.heap.size, 2, none⟩) (lt_of_cell p2)).trans p2⟩)
  clear p0 p1 p2 hz
  go_loopw [3] (fun i wr => ∃ k : Nat, k ≤ m ∧ i = .int .i64 k ∧ Hid ((init.take k).any (fun z => !nodeB n z) = false) ∧ Hid (Below W.heap.size W wr)) (fun i _ => m - (intOf i).toNat)
  case atStart => exact ⟨0, by omega, rfl, Lib.hid rfl, Lib.hid (Below.refl _ _)⟩
  case round =>
    obtain ⟨k, hk, rfl, HT, HW⟩ := hrel
    obtain ⟨p0, p1, p2⟩ := HP.out _ HW.out
    by_cases hlt : k < m
    · obtain ⟨b, o, rfl, hb, hcc⟩ := HI2.out (by rw [HM.out]; omega)
      have hkl : k < init.length := by rw [HM.out]; exact hlt
      have HC := Lib.hid ((HW.out.cell (p := ⟨b, o + k, none⟩) hb).trans (hcc k hkl))
      have HG : Hid (init.getD k 0 = init[k]) := Lib.hid (by simp [List.getD, hkl])
      have HS : Hid ((init.take (k + 1)).any (fun z => !nodeB n z) = !nodeB n (init.getD k 0)) := Lib.hid (by rw [any_take hkl, HT.out, HG.out]; rfl)
      have HF : Hid (nodeB n (init.getD k 0) = false → (init.any fun z => !nodeB n z) = true) := Lib.hid (fun h => any_at hkl (by rw [← HG.out, h]; rfl))
      generalize init.getD k 0 = y at HC HS HF
      clear hcc HG hkl
      go_wp2_with fail
      refine still_tail_at 6 (by kernel_rfl) (by kernel_rfl) ?_
      intro W5 hW5
      have r0 : W5.cell? ⟨w.heap.size, 0, none⟩ = some (.slice (some ⟨b, o, none⟩) m c1) := by rw [hW5]; exact p0
      have r1 : W5.cell? ⟨w.heap.size, 1, none⟩ = some (.slice A2 n c2) := by rw [hW5]; exact p1
      have r2 : W5.cell? ⟨w.heap.size, 2, none⟩ = some (.slice A3 n c3) := by rw [hW5]; exact p2
      have r3 : W5.cell? ⟨b, o + k, none⟩ = some (.int .i64 y) := by rw [hW5]; exact HC.out
      have HW5 : Hid (Below W.heap.size W W5) := Lib.hid (by rw [hW5]; exact HW.out.drew)
      clear hW5 p0 p1 p2 HW HC
      simp only [List.take_succ_cons, List.take_zero, List.drop_succ_cons, List.drop_zero]
      repeat still_step
      refine wpStill_nil ?_
      go_wp2_with fail
      refine (node_any _ _ A2 n c2 y W5).mono ?_
      rintro e w' ⟨rfl, hb2⟩
      have HW2 : Hid (Below W.heap.size W w') := Lib.hid (HW5.out.trans (hb2.mono HW5.out.size))
      clear hb2 r0 r1 r2 r3
      by_cases hy : nodeB n y = true
      · rw [hy]
        have HT2 : Hid ((init.take (k + 1)).any (fun z => !nodeB n z) = false) := Lib.hid (by rw [HS.out, hy]; rfl)
        clear HS HF hy
        go_wp2_with fail
        go_roundw
        case rel => exact ⟨k + 1, by omega, by go_num, HT2, HW2⟩
        case measure => simp [intOf]; omega
      · have hy2 : nodeB n y = false := by simpa using hy
        rw [hy2]
        have HE : Hid (chkR n init rows = 10) := Lib.hid (by unfold chkR; rw [if_pos (HF.out hy2)])
        have HB3 : Hid (Below w.heap.size w w') := Lib.hid (HB.out.trans (HW2.out.mono HB.out.size))
        clear HS HF hy hy2
        go_wp2_with fail
        go_ret
        exact ⟨ret_int HE.out.symm, HB3.out⟩
    · obtain rfl : m = k := by omega
      have HIF : Hid ((init.any fun z => !nodeB n z) = false) := Lib.hid (by have := HT.out; rwa [List.take_of_length_le (by rw [HM.out]; omega)] at this)
      clear hlt hk HT
      go_wp2_with fail
      clear p0 p1 p2
      go_loopw [4, 5] (fun i _ wr => ∃ k : Nat, k ≤ n ∧ i = .int .i64 k ∧ Hid ((rows.take k).any (fun r => r.any fun z => !nodeB n z.1) = false) ∧ Hid (Below W.heap.size W wr)) (fun i _ _ => n - (intOf i).toNat)
      case atStart => exact ⟨0, by omega, rfl, Lib.hid rfl, HW⟩
      case round =>
        clear HW
        obtain ⟨k, hk, rfl, HT, HW⟩ := hrel
        obtain ⟨p0, p1, p2⟩ := HP.out _ HW.out
        by_cases hlt : k < n
        · obtain ⟨b, o, rfl, hb, hcc⟩ := HR2.out (by rw [HN.out]; omega)
          have hkl : k < rows.length := by rw [HN.out]; exact hlt
          obtain ⟨A', c', r1, r2, r3, r4⟩ := hcc k hkl
          have hbW : b < W.heap.size := hb
          have HG : Hid (rows.getD k [] = rows[k]) := Lib.hid (by simp [List.getD, hkl])
          have HS : Hid ((rows.take (k + 1)).any (fun r => r.any fun z => !nodeB n z.1) = (rows.getD k []).any (fun z => !nodeB n z.1)) := Lib.hid (by rw [any_take hkl, HT.out, HG.out]; rfl)
          have HF : Hid ((rows.getD k []).any (fun z => !nodeB n z.1) = true → (rows.any fun r => r.any fun z => !nodeB n z.1) = true) := Lib.hid (fun h => any_at hkl (by show (rows[k].any fun z => !nodeB n z.1) = true; rw [← HG.out]; exact h))
          have HPA := Lib.hid r4
          obtain ⟨row, HROW⟩ : ∃ row, Hid (rows.getD k [] = row) := ⟨_, Lib.hid rfl⟩
          rw [HROW.out] at r1 r2 HS HF HPA
          obtain ⟨l, HL⟩ : ∃ l, Hid (row.length = l) := ⟨_, Lib.hid rfl⟩
          rw [HL.out] at r1 r2
          unfold maxLen at r3
          have HR1 : Hid (∀ V, Below W.heap.size W V → V.cell? ⟨b, o + k, none⟩ = some (.slice A' l c')) := Lib.hid (fun V hV => (hV.cell (p := ⟨b, o + k, none⟩) hbW).trans r1)
          clear hcc HG hkl r1 r4 p0 p2
          have q1 := HR1.out _ HW.out
          go_wp2_with fail
          clear q1 p1
          obtain ⟨wo, rfl⟩ : ∃ wo : World, wo = wr := ⟨_, rfl⟩
          go_loopw [5] (fun j V => ∃ i : Nat, i ≤ l ∧ j = .int .i64 i ∧ Hid ((row.take i).any (fun z => !nodeB n z.1) = false) ∧ Hid (Below W.heap.size W V)) (fun j _ => l - (intOf j).toNat)
          case atStart => exact ⟨0, by omega, rfl, Lib.hid rfl, HW⟩
          case round =>
            clear HW HT
            obtain ⟨i, hi, rfl, HT, HW⟩ := hrel
            obtain ⟨p0, p1, p2⟩ := HP.out _ HW.out
            have q1 := HR1.out _ HW.out
            by_cases hil : i < l
            · obtain ⟨eb, eo, rfl, heb, hec⟩ := HPA.out (by rw [HL.out]; omega)
              have hil2 : i < row.length := by rw [HL.out]; exact hil
              have HC := Lib.hid ((HW.out.cell (p := ⟨eb, eo + i * 2, none⟩) heb).trans (hec i hil2).1)
              have HG : Hid (row.getD i (0, 0) = row[i]) := Lib.hid (by simp [List.getD, hil2])
              have HS2 : Hid ((row.take (i + 1)).any (fun z => !nodeB n z.1) = !nodeB n (row.getD i (0, 0)).1) := Lib.hid (by rw [any_take hil2, HT.out, HG.out]; rfl)
              have HF2 : Hid (nodeB n (row.getD i (0, 0)).1 = false → (row.any fun z => !nodeB n z.1) = true) := Lib.hid (fun h => any_at hil2 (by show (!nodeB n row[i].1) = true; rw [← HG.out, h]; rfl))
              generalize (row.getD i (0, 0)).1 = y at HC HS2 HF2
              clear hec HG hil2
              go_wp2_with fail
              refine still_tail_at 10 (by kernel_rfl) (by kernel_rfl) ?_
              intro W5 hW5
              have s0 : W5.cell? ⟨w.heap.size, 0, none⟩ = some (.slice A1 m c1) := by rw [hW5]; exact p0
              have s1 : W5.cell? ⟨w.heap.size, 1, none⟩ = some (.slice (some ⟨b, o, none⟩) n c2) := by rw [hW5]; exact p1
              have s2 : W5.cell? ⟨w.heap.size, 2, none⟩ = some (.slice A3 n c3) := by rw [hW5]; exact p2
              have s3 : W5.cell? ⟨b, o + k, none⟩ = some (.slice (some ⟨eb, eo, none⟩) l c') := by rw [hW5]; exact q1
              have s4 : W5.cell? ⟨eb, eo + i * 2, none⟩ = some (.int .i64 y) := by rw [hW5]; exact HC.out
              have HW5 : Hid (Below W.heap.size W W5) := Lib.hid (by rw [hW5]; exact HW.out.drew)
              clear hW5 p0 p1 p2 q1 HW HC
              simp only [List.take_succ_cons, List.take_zero, List.drop_succ_cons, List.drop_zero]
              repeat still_step
              refine wpStill_nil ?_
              go_wp2_with fail
              refine (node_any _ _ (some ⟨b, o, none⟩) n c2 y W5).mono ?_
              rintro e w' ⟨rfl, hb2⟩
              have HW2 : Hid (Below W.heap.size W w') := Lib.hid (HW5.out.trans (hb2.mono HW5.out.size))
              clear hb2 s0 s1 s2 s3 s4
              by_cases hy : nodeB n y = true
              · rw [hy]
                have HT2 : Hid ((row.take (i + 1)).any (fun z => !nodeB n z.1) = false) := Lib.hid (by rw [HS2.out, hy]; rfl)
                clear HS2 HF2 hy
                go_wp2_with fail
                go_roundw
                case rel => exact ⟨i + 1, by omega, by go_num, HT2, HW2⟩
                case measure => simp [intOf]; omega
              · have hy2 : nodeB n y = false := by simpa using hy
                rw [hy2]
                have HE : Hid (chkR n init rows = 10) := Lib.hid (by unfold chkR; rw [HIF.out, if_neg (by decide), if_pos (HF.out (HF2.out hy2))])
                have HB3 : Hid (Below w.heap.size w w') := Lib.hid (HB.out.trans (HW2.out.mono HB.out.size))
                clear HS2 HF2 hy hy2
                go_wp2_with fail
                go_ret
                exact ⟨ret_int HE.out.symm, HB3.out⟩
            · obtain rfl : l = i := by omega
              have HT2 : Hid ((rows.take (k + 1)).any (fun r => r.any fun z => !nodeB n z.1) = false) := Lib.hid (by rw [HS.out]; have := HT.out; rwa [List.take_of_length_le (by rw [HL.out]; omega)] at this)
              clear hil hi HS HF HT
              go_wp2_with fail
              go_roundw
              case rel => exact ⟨k + 1, by omega, by go_num, HT2, HW⟩
              case measure => simp [intOf]; omega
        · obtain rfl : n = k := by omega
          have HE : Hid (chkR n init rows = 0) := Lib.hid (by unfold chkR; rw [HIF.out, if_neg (by decide), if_neg (by have := HT.out; rw [List.take_of_length_le (by rw [HN.out]; omega)] at this; rw [this]; decide)])
          have HB3 : Hid (Below w.heap.size w wr) := Lib.hid (HB.out.trans (HW.out.mono HB.out.size))
          clear hlt HT
          go_wp2_with fail
          go_ret
          exact ⟨ret_int HE.out.symm, HB3.out⟩
theorem refCheck_any {w : World} {v : Value} {G : Gr} (hv : GV w v G) : Calls Try.prog 18 #[v] w fun e w' => e = .returned (.int .i64 (chk G)) ∧ Below w.heap.size w w' := by
  obtain ⟨A1, c1, A2, c2, A3, c3, rfl, ⟨a1, b1, d1⟩, ⟨a2, b2, d2⟩, ⟨a3, b3, d3⟩⟩ := hv
  unfold chk
  by_cases h2 : 65536 < G.rows.length
  · rw [if_pos h2]
    exact refCheck_many _ _ A2 c2 _ w h2 (by omega)
  · rw [if_neg h2]
    by_cases h3 : G.labels.length = G.rows.length
    · rw [if_neg (fun h => h h3), h3]
      exact refCheck_rest A1 A2 A3 c1 c2 c3 _ G.init G.rows w (by omega) rfl (by omega) d1 d2
    · rw [if_pos h3]
      exact refCheck_form _ A2 A3 c2 c3 _ _ w (by omega) h3
end Go.Proofs.Ytnfiohekdbjgoaa
