/- Graphs: the document's Reach. -/
import Derived.Test.YtjgifbcjokeigaaAwake
namespace Go.Proofs.Ytjgifbcjokeigaa
open Go.ChangeShapes Go.WideShapes Go.ChangeAt Go.RowKit Go.Shelf

theorem rowF_true {n : Nat} {a : Int} : ∀ (l : List (Int × Int)) (tr : List (Nat × Int)), (rowF n (fun _ => true) a l tr).2 = true
  | [], _ => rfl
  | e :: l, tr => by
    rw [rowF]
    split
    · exact rowF_true l _
    · exact rowF_true l _
/-- What is left of a search at its h-th node. -/
def atF (n : Nat) (rows : List (List (Int × Int))) (f : Nat) (tr : List (Nat × Int)) (h : Nat) : List (Nat × Int) :=
  if h < tr.length then seaF n rows (fun _ => true) f (rows.getD (tr.getD h (0, 0)).1 []) ((tr.getD h (0, 0)).1 : Int) tr (h + 1) else tr
theorem seaF_at (n : Nat) (rows : List (List (Int × Int))) (f : Nat) (row : List (Int × Int)) (a : Int) (tr : List (Nat × Int)) (h : Nat) : seaF n rows (fun _ => true) (f + 1) row a tr h = atF n rows f (rowF n (fun _ => true) a row tr).1 h := by
  rw [seaF, if_pos (rowF_true row tr)]
  rfl
theorem atF_next {n : Nat} {rows : List (List (Int × Int))} {f : Nat} {tr : List (Nat × Int)} {h : Nat} (hh : h < tr.length) : atF n rows (f + 1) tr h = atF n rows f (rowF n (fun _ => true) ((tr.getD h (0, 0)).1 : Int) (rows.getD (tr.getD h (0, 0)).1 []) tr).1 (h + 1) := by
  unfold atF
  rw [if_pos hh, seaF_at]
  rfl
theorem atF_end {n : Nat} {rows : List (List (Int × Int))} {f : Nat} {tr : List (Nat × Int)} {h : Nat} (hh : tr.length ≤ h) : atF n rows f tr h = tr := by
  unfold atF
  rw [if_neg (by omega)]
theorem rowF_grow {n : Nat} {a : Int} : ∀ (l : List (Int × Int)) (tr : List (Nat × Int)), tr.length ≤ (rowF n (fun _ => true) a l tr).1.length
  | [], _ => Nat.le_refl _
  | e :: l, tr => by
    rw [rowF]
    split
    · rw [if_pos rfl]
      exact Nat.le_trans (by simp) (rowF_grow l _)
    · exact rowF_grow l _
theorem edgesF_drop {starts : List Int} {i : Nat} (h : i < starts.length) : (edgesF starts).drop i = (starts.getD i 0, 0) :: (edgesF starts).drop (i + 1) := by
  unfold edgesF
  rw [List.drop_eq_getElem_cons (by simpa using h)]
  simp [List.getD, h]
theorem opens_snoc (tr : List (Nat × Int)) (k : Nat) (a : Int) : waitL (tr ++ [(k, a)]) 0 = waitL tr 0 ++ [(k : Int)] := waitL_snoc (Nat.zero_le _) k a

set_option maxRecDepth 20000 in
set_option maxHeartbeats 8000000 in
theorem refReach_of (A1 A2 A3 : Option Addr) (n1 c1 n c2 n3 c3 : Nat) (As : Option Addr) (m cs : Nat) (starts : List Int) (rows : List (List (Int × Int))) (w : World) (hn : n = rows.length) (hnl : n ≤ 100000) (hR : RA w A2 rows) (hm : m = starts.length) (hml : m ≤ 1000000) (hS : IA w As starts) :
    Calls Try.prog 23 #[.agg #[.slice A1 n1 c1, .slice A2 n c2, .slice A3 n3 c3], .slice As m cs] w (Marks w n (seen n rows starts)) := by
  obtain ⟨i0, hi, hz0, hz1, hz2⟩ := info_parts (show (Try.prog.info? 4).map (fun i => (i.zero, i.size, i.bytes)) = some (some (.bool false), 1, 1) by kernel_rfl)
  have hmk : ∀ W : World, (Instr.makeSlice 33 (.int .i64 (n : Int)) (.int .i64 (n : Int))).run Try.prog W = .ok (.slice (some ⟨W.heap.size, 0, none⟩) n n) (W.alloc (.cells (madeCells #[.bool false] n) 4)) := fun W => by
    have hr := run_make (P := Try.prog) W 33 4 i0 _ (by kernel_rfl) hi hz0 .i64 .i64 (n : Int) (n : Int) (by omega) (Int.le_refl _) (by rw [hz2]; omega) (by omega)
    rw [hr, hz1, Int.toNat_natCast, Nat.mul_one]
    rfl
  have HMK := Lib.hid hmk
  have HN := Lib.hid hn
  have HR := Lib.hid hR
  have HM := Lib.hid hm
  have HS := Lib.hid hS
  have HEL : Hid ((edgesF starts).length = m) := Lib.hid (by unfold edgesF; rw [List.length_map]; exact hm.symm)
  obtain ⟨FIN, HF⟩ : ∃ FIN, Hid (seen n rows starts = FIN) := ⟨_, Lib.hid rfl⟩
  rw [HF.out]
  have HFA : Hid (atF n rows n (rowF n (fun _ => true) (-1) (edgesF starts) []).1 0 = FIN) := Lib.hid (by rw [← HF.out]; unfold seen; rw [seaF_at])
  clear hi hz0 hz1 hz2 hn hR hm hS hmk
  go_enter Try.func23, Try.ntmps23
  have hmk := HMK.out
  go_wp2_with fail
  clear hmk
  have hB2 : Below w.heap.size w ((w.alloc (.cells #[.slice A1 n1 c1, .slice A2 n c2, .slice A3 n3 c3] 26)).alloc (.cells (madeCells #[.bool false] n) 4)) := below2 _ _ _
  have hbx := (box3 w (.slice A1 n1 c1) (.slice A2 n c2) (.slice A3 n3 c3) 26)
  have hbx2 : B3 _ _ _ _ _ := B3.below (w' := (w.alloc (.cells #[.slice A1 n1 c1, .slice A2 n c2, .slice A3 n3 c3] 26)).alloc (.cells (madeCells #[.bool false] n) 4)) hbx (below1 _ _)
  have hrow : ((w.alloc (.cells #[.slice A1 n1 c1, .slice A2 n c2, .slice A3 n3 c3] 26)).alloc (.cells (madeCells #[.bool false] n) 4)).rowIs (w.heap.size + 1) 4 n (mv []) := by
    have h := World.rowIs_made (w.alloc (.cells #[.slice A1 n1 c1, .slice A2 n c2, .slice A3 n3 c3] 26)) (.bool false) n 4
    rw [World.size_alloc] at h
    exact h
  have hz2 : w.heap.size + 2 ≤ ((w.alloc (.cells #[.slice A1 n1 c1, .slice A2 n c2, .slice A3 n3 c3] 26)).alloc (.cells (madeCells #[.bool false] n) 4)).heap.size := by simp
  generalize ((w.alloc (.cells #[.slice A1 n1 c1, .slice A2 n c2, .slice A3 n3 c3] 26)).alloc (.cells (madeCells #[.bool false] n) 4)) = w2 at *
  have HROW := Lib.hid hrow
  have HB2 := Lib.hid hB2
  have HBX2 : Hid (B3 w2 w.heap.size (.slice A1 n1 c1) (.slice A2 n c2) (.slice A3 n3 c3)) := Lib.hid hbx2
  -- worlds in which only the marks and new blocks have turned
  have HKP : Hid (∀ W, Turn (fun q => q = w.heap.size + 1) w2 W → B3 W w.heap.size (.slice A1 n1 c1) (.slice A2 n c2) (.slice A3 n3 c3) ∧ (∀ q, q < w.heap.size → W.heap[q]? = w.heap[q]?) ∧ w.heap.size + 2 ≤ W.heap.size) := Lib.hid (fun W h => by
    have hs := h.size
    refine ⟨⟨(h.cell (p := ⟨w.heap.size, 0, none⟩) (by show w.heap.size < w2.heap.size; omega) (by simp)).trans hbx2.1, (h.cell (p := ⟨w.heap.size, 1, none⟩) (by show w.heap.size < w2.heap.size; omega) (by simp)).trans hbx2.2.1, (h.cell (p := ⟨w.heap.size, 2, none⟩) (by show w.heap.size < w2.heap.size; omega) (by simp)).trans hbx2.2.2⟩, fun q hq => (h.block q (by omega) (by omega)).trans (hB2.block q hq), by omega⟩)
  have HSW : Hid (∀ W, Turn (fun q => q = w.heap.size + 1) w2 W → IA W As starts) := Lib.hid (fun W h hn => by
    obtain ⟨b, off, e, hb, hc⟩ := HS.out hn
    obtain ⟨_, h2, h3⟩ := HKP.out W h
    exact ⟨b, off, e, by omega, fun i hi => (World.cell?_of_block (w := w) (a := ⟨b, off + i, none⟩) (h2 b hb)).trans (hc i hi)⟩)
  clear hrow hB2 hbx hbx2
  go_loopw [6, 7] (fun q i wr => ∃ (j : Nat) (tr : List (Nat × Int)) (Aq : Option Addr) (lq cq : Nat), q = .slice Aq lq cq ∧ i = .int .i64 j ∧ j ≤ m ∧ Hid (lq = (waitL tr 0).length) ∧ Hid (OI w2.heap.size wr (.slice Aq lq cq) (waitL tr 0)) ∧ Hid (wr.rowIs (w.heap.size + 1) 4 n (mv tr)) ∧ Hid (Turn (fun q => q = w.heap.size + 1) w2 wr) ∧ Hid (TrOk n tr) ∧
    Hid ((rowF n (fun _ => true) (-1) (edgesF starts) []).1 = (rowF n (fun _ => true) (-1) ((edgesF starts).drop j) tr).1)) (fun _ i _ => m - (intOf i).toNat)
  case atStart => exact ⟨0, [], none, 0, 0, rfl, rfl, Nat.zero_le _, Lib.hid rfl, Lib.hid (OI.nil _ _), HROW, Lib.hid (Turn.refl _ _), Lib.hid (TrOk.nil n), Lib.hid rfl⟩
  case round =>
    obtain ⟨j, tr, Aq, lq, cq, rfl, rfl, hj, HLQ, HO, HRW, HT, HOK, HRF⟩ := hrel
    by_cases hlt : j < m
    · obtain ⟨b, o, rfl, hb, hc⟩ := (HSW.out wr HT.out) (by rw [← HM.out]; omega)
      have d1 := hc j (by rw [← HM.out]; exact hlt)
      have HED := Lib.hid (edgesF_drop (starts := starts) (i := j) (by rw [← HM.out]; exact hlt))
      obtain ⟨hbx, _, hzz⟩ := HKP.out wr HT.out
      clear hc
      generalize starts.getD j 0 = z at d1 HED
      have D1 := Lib.hid d1
      have HBW := Lib.hid hb
      have HBXW := Lib.hid hbx
      clear d1 hbx
      have HBWR : Hid (b < wr.heap.size) := Lib.hid hb
      have HBW : Hid (b < w.heap.size) := Lib.hid (by obtain ⟨b9, o9, e9, h9, _⟩ := HS.out (by rw [← HM.out]; omega); injection e9 with e9; injection e9 with e9; omega)
      by_cases hnd : nodeB n z = true
      · obtain ⟨k, rfl, hk⟩ : ∃ k : Nat, z = (k : Int) ∧ k < n := by
          unfold nodeB at hnd
          have h2 := of_decide_eq_true hnd
          exact ⟨z.toNat, by omega, by omega⟩
        have HND := Lib.hid hnd
        have m1 : wr.cell? ⟨w.heap.size + 1, k, none⟩ = some (.bool (metB tr k)) := HRW.out.cell hk
        by_cases hme : metB tr k = true
        · rw [hme] at m1
          have M1 := Lib.hid m1
          have HE : Hid ((rowF n (fun _ => true) (-1) (edgesF starts) []).1 = (rowF n (fun _ => true) (-1) ((edgesF starts).drop (j + 1)) tr).1) := Lib.hid (by rw [HRF.out, HED.out]; rw [rowF_skip (by simp only [Int.toNat_natCast]; rw [hme]; simp)])
          clear hme m1 hnd
          have HV : Hid (∀ W, Below wr.heap.size wr W → (W.cell? ⟨w.heap.size, 0, none⟩ = some (.slice A1 n1 c1) ∧ W.cell? ⟨w.heap.size, 1, none⟩ = some (.slice A2 n c2) ∧ W.cell? ⟨w.heap.size, 2, none⟩ = some (.slice A3 n3 c3)) ∧ W.cell? ⟨b, o + j, none⟩ = some (.int .i64 (k : Int)) ∧ W.cell? ⟨w.heap.size + 1, k, none⟩ = some (.bool true)) := Lib.hid (fun W h => ⟨HBXW.out.below h, (h.cell (p := ⟨b, o + j, none⟩) HBWR.out).trans D1.out, (h.cell (p := ⟨w.heap.size + 1, k, none⟩) HRW.out.lt).trans M1.out⟩)
          have HKEEP : Hid (Below wr.heap.size wr wr.drew) := Lib.hid (Below.refl _ _).drew
          go_upto_region 6 with (fail)
          refine wp_region_held_drew (S := (fun W => (W.cell? ⟨w.heap.size, 0, none⟩ = some (.slice A1 n1 c1) ∧ W.cell? ⟨w.heap.size, 1, none⟩ = some (.slice A2 n c2) ∧ W.cell? ⟨w.heap.size, 2, none⟩ = some (.slice A3 n3 c3)) ∧ W.cell? ⟨b, o + j, none⟩ = some (.int .i64 (k : Int)) ∧ W.cell? ⟨w.heap.size + 1, k, none⟩ = some (.bool true))) (by kernel_rfl) (HV.out _ HKEEP.out) ?_
          intro hS0
          have HS0 := Lib.hid hS0
          clear hS0
          simp only [Array.replicate, List.replicate]
          refine wpAnyH_take (i := 0) (oi := ⟨some 21, _, _, _, _, _⟩) (v := .agg #[.slice A1 n1 c1, .slice A2 n c2, .slice A3 n3 c3]) rfl (by kernel_rfl) (by kernel_rfl) (by kernel_rfl) (fun _ _ _ h => h) (Or.inl ⟨by kernel_rfl, fun w9 hS => ?_⟩) HS0.out ?_
          · obtain ⟨⟨s0, s1, s2⟩, s3, s4⟩ := hS
            go_simp
          try simp only [Act.put, List.setIfInBounds_toArray, List.set_cons_zero, List.set_cons_succ]
          refine wpAnyH_take (i := 1) (oi := ⟨some 22, _, _, _, _, _⟩) (v := .slice (some ⟨b, o, none⟩) m cs) rfl (by kernel_rfl) (by kernel_rfl) (by kernel_rfl) (fun _ _ _ h => h) (Or.inl ⟨by kernel_rfl, fun w9 hS => ?_⟩) HS0.out ?_
          · obtain ⟨⟨s0, s1, s2⟩, s3, s4⟩ := hS
            go_simp
          try simp only [Act.put, List.setIfInBounds_toArray, List.set_cons_zero, List.set_cons_succ]
          refine wpAnyH_take (i := 2) (oi := ⟨some 23, _, _, _, _, _⟩) (v := .int .i64 (j : Int)) rfl (by kernel_rfl) (by kernel_rfl) (by kernel_rfl) (fun _ _ _ h => h) (Or.inl ⟨by kernel_rfl, fun w9 hS => ?_⟩) HS0.out ?_
          · obtain ⟨⟨s0, s1, s2⟩, s3, s4⟩ := hS
            go_simp
          try simp only [Act.put, List.setIfInBounds_toArray, List.set_cons_zero, List.set_cons_succ]
          refine wpAnyH_take (i := 3) (oi := ⟨some 24, _, _, _, _, _⟩) (v := .pointer (some ⟨b, o + j, none⟩)) rfl (by kernel_rfl) (by kernel_rfl) (by kernel_rfl) (fun _ _ _ h => h) (Or.inl ⟨by kernel_rfl, fun w9 hS => ?_⟩) HS0.out ?_
          · obtain ⟨⟨s0, s1, s2⟩, s3, s4⟩ := hS
            go_simp
          try simp only [Act.put, List.setIfInBounds_toArray, List.set_cons_zero, List.set_cons_succ]
          refine wpAnyH_take (i := 4) (oi := ⟨some 25, _, _, _, _, _⟩) (v := .int .i64 (k : Int)) rfl (by kernel_rfl) (by kernel_rfl) (by kernel_rfl) (fun _ _ _ h => h) (Or.inl ⟨by kernel_rfl, fun w9 hS => ?_⟩) HS0.out ?_
          · obtain ⟨⟨s0, s1, s2⟩, s3, s4⟩ := hS
            go_simp
          try simp only [Act.put, List.setIfInBounds_toArray, List.set_cons_zero, List.set_cons_succ]
          refine wpAnyH_ready (rs := [5]) (by kernel_rfl) (by simp) ?_
          refine AllReadyH.cons (o := ⟨some 26, _, _, _, _, _⟩) rfl (fun K hK => ?_) AllReadyH.nil
          rw [if_pos (by kernel_rfl)]
          go_simp
          go_at_call 33
          refine (node_any _ _ A2 n c2 _ _).mono ?_
          rw [HND.out]
          rintro e v3 ⟨rfl, hb3⟩
          have HKEEP : Hid (Below wr.heap.size wr v3) := Lib.hid (HKEEP.out.trans (hb3.mono HKEEP.out.size))
          have HS1 : Hid _ := Lib.hid (HV.out v3 HKEEP.out)
          refine hK.out _ _ HS1.out (fun _ => ?_)
          clear hK K hb3
          try simp only [Act.put, List.setIfInBounds_toArray, List.set_cons_zero, List.set_cons_succ]
          refine wpAnyH_take (i := 6) (oi := ⟨some 27, _, _, _, _, _⟩) (v := .bool true) rfl (by kernel_rfl) (by kernel_rfl) (by kernel_rfl) (fun _ _ _ h => h) (Or.inl ⟨by kernel_rfl, fun w9 hS => ?_⟩) HS1.out ?_
          · obtain ⟨⟨s0, s1, s2⟩, s3, s4⟩ := hS
            go_simp
          try simp only [Act.put, List.setIfInBounds_toArray, List.set_cons_zero, List.set_cons_succ]
          refine wpAnyH_take (i := 7) (oi := ⟨some 28, _, _, _, _, _⟩) (v := .slice (some ⟨w.heap.size + 1, 0, none⟩) n n) rfl (by kernel_rfl) (by kernel_rfl) (by kernel_rfl) (fun _ _ _ h => h) (Or.inl ⟨by kernel_rfl, fun w9 hS => ?_⟩) HS1.out ?_
          · obtain ⟨⟨s0, s1, s2⟩, s3, s4⟩ := hS
            go_simp
          try simp only [Act.put, List.setIfInBounds_toArray, List.set_cons_zero, List.set_cons_succ]
          refine wpAnyH_take (i := 8) (oi := ⟨some 29, _, _, _, _, _⟩) (v := .slice (some ⟨b, o, none⟩) m cs) rfl (by kernel_rfl) (by kernel_rfl) (by kernel_rfl) (fun _ _ _ h => h) (Or.inl ⟨by kernel_rfl, fun w9 hS => ?_⟩) HS1.out ?_
          · obtain ⟨⟨s0, s1, s2⟩, s3, s4⟩ := hS
            go_simp
          try simp only [Act.put, List.setIfInBounds_toArray, List.set_cons_zero, List.set_cons_succ]
          refine wpAnyH_take (i := 9) (oi := ⟨some 30, _, _, _, _, _⟩) (v := .int .i64 (j : Int)) rfl (by kernel_rfl) (by kernel_rfl) (by kernel_rfl) (fun _ _ _ h => h) (Or.inl ⟨by kernel_rfl, fun w9 hS => ?_⟩) HS1.out ?_
          · obtain ⟨⟨s0, s1, s2⟩, s3, s4⟩ := hS
            go_simp
          try simp only [Act.put, List.setIfInBounds_toArray, List.set_cons_zero, List.set_cons_succ]
          refine wpAnyH_take (i := 10) (oi := ⟨some 31, _, _, _, _, _⟩) (v := .pointer (some ⟨b, o + j, none⟩)) rfl (by kernel_rfl) (by kernel_rfl) (by kernel_rfl) (fun _ _ _ h => h) (Or.inl ⟨by kernel_rfl, fun w9 hS => ?_⟩) HS1.out ?_
          · obtain ⟨⟨s0, s1, s2⟩, s3, s4⟩ := hS
            go_simp
          try simp only [Act.put, List.setIfInBounds_toArray, List.set_cons_zero, List.set_cons_succ]
          refine wpAnyH_take (i := 11) (oi := ⟨some 32, _, _, _, _, _⟩) (v := .int .i64 (k : Int)) rfl (by kernel_rfl) (by kernel_rfl) (by kernel_rfl) (fun _ _ _ h => h) (Or.inl ⟨by kernel_rfl, fun w9 hS => ?_⟩) HS1.out ?_
          · obtain ⟨⟨s0, s1, s2⟩, s3, s4⟩ := hS
            go_simp
          try simp only [Act.put, List.setIfInBounds_toArray, List.set_cons_zero, List.set_cons_succ]
          refine wpAnyH_take (i := 12) (oi := ⟨some 33, _, _, _, _, _⟩) (v := .pointer (some ⟨w.heap.size + 1, k, none⟩)) rfl (by kernel_rfl) (by kernel_rfl) (by kernel_rfl) (fun _ _ _ h => h) (Or.inl ⟨by kernel_rfl, fun w9 hS => ?_⟩) HS1.out ?_
          · obtain ⟨⟨s0, s1, s2⟩, s3, s4⟩ := hS
            go_simp
          try simp only [Act.put, List.setIfInBounds_toArray, List.set_cons_zero, List.set_cons_succ]
          refine wpAnyH_take (i := 13) (oi := ⟨some 34, _, _, _, _, _⟩) (v := .bool true) rfl (by kernel_rfl) (by kernel_rfl) (by kernel_rfl) (fun _ _ _ h => h) (Or.inl ⟨by kernel_rfl, fun w9 hS => ?_⟩) HS1.out ?_
          · obtain ⟨⟨s0, s1, s2⟩, s3, s4⟩ := hS
            go_simp
          try simp only [Act.put, List.setIfInBounds_toArray, List.set_cons_zero, List.set_cons_succ]
          refine wpAnyH_take (i := 14) (oi := ⟨some 35, _, _, _, _, _⟩) (v := .bool false) rfl (by kernel_rfl) (by kernel_rfl) (by kernel_rfl) (fun _ _ _ h => h) (Or.inl ⟨by kernel_rfl, fun w9 hS => ?_⟩) HS1.out ?_
          · obtain ⟨⟨s0, s1, s2⟩, s3, s4⟩ := hS
            go_simp
          try simp only [Act.put, List.setIfInBounds_toArray, List.set_cons_zero, List.set_cons_succ]
          refine wpAnyH_take (i := 15) (oi := ⟨some 36, _, _, _, _, _⟩) (v := .bool false) rfl (by kernel_rfl) (by kernel_rfl) (by kernel_rfl) (fun _ _ _ h => h) (Or.inl ⟨by kernel_rfl, fun w9 hS => ?_⟩) HS1.out ?_
          · obtain ⟨⟨s0, s1, s2⟩, s3, s4⟩ := hS
            go_simp
          try simp only [Act.put, List.setIfInBounds_toArray, List.set_cons_zero, List.set_cons_succ]
          refine wpAnyH_done (by kernel_rfl) ?_ _
          have HT3 : Hid (Turn (fun q => q = w.heap.size + 1) w2 v3) := Lib.hid (HT.out.then_below (HKEEP.out.mono HT.out.size))
          have HO3 : Hid (OI w2.heap.size v3 (.slice Aq lq cq) (waitL tr 0)) := Lib.hid (OI.below HO.out HKEEP.out)
          have HRW3 : Hid (v3.rowIs (w.heap.size + 1) 4 n (mv tr)) := Lib.hid (HRW.out.of_block (HKEEP.out.block _ HRW.out.lt))
          obtain ⟨⟨s0, s1, s2⟩, s3, s4⟩ := HS1.out
          clear s0 s1 s2 s3 s4
          go_wp2_with fail
          go_roundw
          case rel => exact ⟨j + 1, tr, Aq, lq, cq, rfl, by go_num, by omega, HLQ, HO3, HRW3, HT3, HOK, HE⟩
          case measure => simp [intOf]; omega
        · have hme2 : metB tr k = false := by simpa using hme
          have HMF := Lib.hid hme2
          rw [hme2] at m1
          have M1 := Lib.hid m1
          have HE : Hid ((rowF n (fun _ => true) (-1) (edgesF starts) []).1 = (rowF n (fun _ => true) (-1) ((edgesF starts).drop (j + 1)) (tr ++ [(k, (-1))])).1) := Lib.hid (by rw [HRF.out, HED.out]; rw [rowF_go (by simp only; rw [HND.out, Int.toNat_natCast, hme2]; rfl) rfl, Int.toNat_natCast])
          clear hme hme2 m1 hnd
          have HV : Hid (∀ W, Below wr.heap.size wr W → (W.cell? ⟨w.heap.size, 0, none⟩ = some (.slice A1 n1 c1) ∧ W.cell? ⟨w.heap.size, 1, none⟩ = some (.slice A2 n c2) ∧ W.cell? ⟨w.heap.size, 2, none⟩ = some (.slice A3 n3 c3)) ∧ W.cell? ⟨b, o + j, none⟩ = some (.int .i64 (k : Int)) ∧ W.cell? ⟨w.heap.size + 1, k, none⟩ = some (.bool false)) := Lib.hid (fun W h => ⟨HBXW.out.below h, (h.cell (p := ⟨b, o + j, none⟩) HBWR.out).trans D1.out, (h.cell (p := ⟨w.heap.size + 1, k, none⟩) HRW.out.lt).trans M1.out⟩)
          have HKEEP : Hid (Below wr.heap.size wr wr.drew) := Lib.hid (Below.refl _ _).drew
          go_upto_region 6 with (fail)
          refine wp_region_held_drew (S := (fun W => (W.cell? ⟨w.heap.size, 0, none⟩ = some (.slice A1 n1 c1) ∧ W.cell? ⟨w.heap.size, 1, none⟩ = some (.slice A2 n c2) ∧ W.cell? ⟨w.heap.size, 2, none⟩ = some (.slice A3 n3 c3)) ∧ W.cell? ⟨b, o + j, none⟩ = some (.int .i64 (k : Int)) ∧ W.cell? ⟨w.heap.size + 1, k, none⟩ = some (.bool false))) (by kernel_rfl) (HV.out _ HKEEP.out) ?_
          intro hS0
          have HS0 := Lib.hid hS0
          clear hS0
          simp only [Array.replicate, List.replicate]
          refine wpAnyH_take (i := 0) (oi := ⟨some 21, _, _, _, _, _⟩) (v := .agg #[.slice A1 n1 c1, .slice A2 n c2, .slice A3 n3 c3]) rfl (by kernel_rfl) (by kernel_rfl) (by kernel_rfl) (fun _ _ _ h => h) (Or.inl ⟨by kernel_rfl, fun w9 hS => ?_⟩) HS0.out ?_
          · obtain ⟨⟨s0, s1, s2⟩, s3, s4⟩ := hS
            go_simp
          try simp only [Act.put, List.setIfInBounds_toArray, List.set_cons_zero, List.set_cons_succ]
          refine wpAnyH_take (i := 1) (oi := ⟨some 22, _, _, _, _, _⟩) (v := .slice (some ⟨b, o, none⟩) m cs) rfl (by kernel_rfl) (by kernel_rfl) (by kernel_rfl) (fun _ _ _ h => h) (Or.inl ⟨by kernel_rfl, fun w9 hS => ?_⟩) HS0.out ?_
          · obtain ⟨⟨s0, s1, s2⟩, s3, s4⟩ := hS
            go_simp
          try simp only [Act.put, List.setIfInBounds_toArray, List.set_cons_zero, List.set_cons_succ]
          refine wpAnyH_take (i := 2) (oi := ⟨some 23, _, _, _, _, _⟩) (v := .int .i64 (j : Int)) rfl (by kernel_rfl) (by kernel_rfl) (by kernel_rfl) (fun _ _ _ h => h) (Or.inl ⟨by kernel_rfl, fun w9 hS => ?_⟩) HS0.out ?_
          · obtain ⟨⟨s0, s1, s2⟩, s3, s4⟩ := hS
            go_simp
          try simp only [Act.put, List.setIfInBounds_toArray, List.set_cons_zero, List.set_cons_succ]
          refine wpAnyH_take (i := 3) (oi := ⟨some 24, _, _, _, _, _⟩) (v := .pointer (some ⟨b, o + j, none⟩)) rfl (by kernel_rfl) (by kernel_rfl) (by kernel_rfl) (fun _ _ _ h => h) (Or.inl ⟨by kernel_rfl, fun w9 hS => ?_⟩) HS0.out ?_
          · obtain ⟨⟨s0, s1, s2⟩, s3, s4⟩ := hS
            go_simp
          try simp only [Act.put, List.setIfInBounds_toArray, List.set_cons_zero, List.set_cons_succ]
          refine wpAnyH_take (i := 4) (oi := ⟨some 25, _, _, _, _, _⟩) (v := .int .i64 (k : Int)) rfl (by kernel_rfl) (by kernel_rfl) (by kernel_rfl) (fun _ _ _ h => h) (Or.inl ⟨by kernel_rfl, fun w9 hS => ?_⟩) HS0.out ?_
          · obtain ⟨⟨s0, s1, s2⟩, s3, s4⟩ := hS
            go_simp
          try simp only [Act.put, List.setIfInBounds_toArray, List.set_cons_zero, List.set_cons_succ]
          refine wpAnyH_ready (rs := [5]) (by kernel_rfl) (by simp) ?_
          refine AllReadyH.cons (o := ⟨some 26, _, _, _, _, _⟩) rfl (fun K hK => ?_) AllReadyH.nil
          rw [if_pos (by kernel_rfl)]
          go_simp
          go_at_call 33
          refine (node_any _ _ A2 n c2 _ _).mono ?_
          rw [HND.out]
          rintro e v3 ⟨rfl, hb3⟩
          have HKEEP : Hid (Below wr.heap.size wr v3) := Lib.hid (HKEEP.out.trans (hb3.mono HKEEP.out.size))
          have HS1 : Hid _ := Lib.hid (HV.out v3 HKEEP.out)
          refine hK.out _ _ HS1.out (fun _ => ?_)
          clear hK K hb3
          try simp only [Act.put, List.setIfInBounds_toArray, List.set_cons_zero, List.set_cons_succ]
          refine wpAnyH_take (i := 6) (oi := ⟨some 27, _, _, _, _, _⟩) (v := .bool true) rfl (by kernel_rfl) (by kernel_rfl) (by kernel_rfl) (fun _ _ _ h => h) (Or.inl ⟨by kernel_rfl, fun w9 hS => ?_⟩) HS1.out ?_
          · obtain ⟨⟨s0, s1, s2⟩, s3, s4⟩ := hS
            go_simp
          try simp only [Act.put, List.setIfInBounds_toArray, List.set_cons_zero, List.set_cons_succ]
          refine wpAnyH_take (i := 7) (oi := ⟨some 28, _, _, _, _, _⟩) (v := .slice (some ⟨w.heap.size + 1, 0, none⟩) n n) rfl (by kernel_rfl) (by kernel_rfl) (by kernel_rfl) (fun _ _ _ h => h) (Or.inl ⟨by kernel_rfl, fun w9 hS => ?_⟩) HS1.out ?_
          · obtain ⟨⟨s0, s1, s2⟩, s3, s4⟩ := hS
            go_simp
          try simp only [Act.put, List.setIfInBounds_toArray, List.set_cons_zero, List.set_cons_succ]
          refine wpAnyH_take (i := 8) (oi := ⟨some 29, _, _, _, _, _⟩) (v := .slice (some ⟨b, o, none⟩) m cs) rfl (by kernel_rfl) (by kernel_rfl) (by kernel_rfl) (fun _ _ _ h => h) (Or.inl ⟨by kernel_rfl, fun w9 hS => ?_⟩) HS1.out ?_
          · obtain ⟨⟨s0, s1, s2⟩, s3, s4⟩ := hS
            go_simp
          try simp only [Act.put, List.setIfInBounds_toArray, List.set_cons_zero, List.set_cons_succ]
          refine wpAnyH_take (i := 9) (oi := ⟨some 30, _, _, _, _, _⟩) (v := .int .i64 (j : Int)) rfl (by kernel_rfl) (by kernel_rfl) (by kernel_rfl) (fun _ _ _ h => h) (Or.inl ⟨by kernel_rfl, fun w9 hS => ?_⟩) HS1.out ?_
          · obtain ⟨⟨s0, s1, s2⟩, s3, s4⟩ := hS
            go_simp
          try simp only [Act.put, List.setIfInBounds_toArray, List.set_cons_zero, List.set_cons_succ]
          refine wpAnyH_take (i := 10) (oi := ⟨some 31, _, _, _, _, _⟩) (v := .pointer (some ⟨b, o + j, none⟩)) rfl (by kernel_rfl) (by kernel_rfl) (by kernel_rfl) (fun _ _ _ h => h) (Or.inl ⟨by kernel_rfl, fun w9 hS => ?_⟩) HS1.out ?_
          · obtain ⟨⟨s0, s1, s2⟩, s3, s4⟩ := hS
            go_simp
          try simp only [Act.put, List.setIfInBounds_toArray, List.set_cons_zero, List.set_cons_succ]
          refine wpAnyH_take (i := 11) (oi := ⟨some 32, _, _, _, _, _⟩) (v := .int .i64 (k : Int)) rfl (by kernel_rfl) (by kernel_rfl) (by kernel_rfl) (fun _ _ _ h => h) (Or.inl ⟨by kernel_rfl, fun w9 hS => ?_⟩) HS1.out ?_
          · obtain ⟨⟨s0, s1, s2⟩, s3, s4⟩ := hS
            go_simp
          try simp only [Act.put, List.setIfInBounds_toArray, List.set_cons_zero, List.set_cons_succ]
          refine wpAnyH_take (i := 12) (oi := ⟨some 33, _, _, _, _, _⟩) (v := .pointer (some ⟨w.heap.size + 1, k, none⟩)) rfl (by kernel_rfl) (by kernel_rfl) (by kernel_rfl) (fun _ _ _ h => h) (Or.inl ⟨by kernel_rfl, fun w9 hS => ?_⟩) HS1.out ?_
          · obtain ⟨⟨s0, s1, s2⟩, s3, s4⟩ := hS
            go_simp
          try simp only [Act.put, List.setIfInBounds_toArray, List.set_cons_zero, List.set_cons_succ]
          refine wpAnyH_take (i := 13) (oi := ⟨some 34, _, _, _, _, _⟩) (v := .bool false) rfl (by kernel_rfl) (by kernel_rfl) (by kernel_rfl) (fun _ _ _ h => h) (Or.inl ⟨by kernel_rfl, fun w9 hS => ?_⟩) HS1.out ?_
          · obtain ⟨⟨s0, s1, s2⟩, s3, s4⟩ := hS
            go_simp
          try simp only [Act.put, List.setIfInBounds_toArray, List.set_cons_zero, List.set_cons_succ]
          refine wpAnyH_take (i := 14) (oi := ⟨some 35, _, _, _, _, _⟩) (v := .bool true) rfl (by kernel_rfl) (by kernel_rfl) (by kernel_rfl) (fun _ _ _ h => h) (Or.inl ⟨by kernel_rfl, fun w9 hS => ?_⟩) HS1.out ?_
          · obtain ⟨⟨s0, s1, s2⟩, s3, s4⟩ := hS
            go_simp
          try simp only [Act.put, List.setIfInBounds_toArray, List.set_cons_zero, List.set_cons_succ]
          refine wpAnyH_take (i := 15) (oi := ⟨some 36, _, _, _, _, _⟩) (v := .bool true) rfl (by kernel_rfl) (by kernel_rfl) (by kernel_rfl) (fun _ _ _ h => h) (Or.inl ⟨by kernel_rfl, fun w9 hS => ?_⟩) HS1.out ?_
          · obtain ⟨⟨s0, s1, s2⟩, s3, s4⟩ := hS
            go_simp
          try simp only [Act.put, List.setIfInBounds_toArray, List.set_cons_zero, List.set_cons_succ]
          refine wpAnyH_done (by kernel_rfl) ?_ _
          have HT3 : Hid (Turn (fun q => q = w.heap.size + 1) w2 v3) := Lib.hid (HT.out.then_below (HKEEP.out.mono HT.out.size))
          have HO3 : Hid (OI w2.heap.size v3 (.slice Aq lq cq) (waitL tr 0)) := Lib.hid (OI.below HO.out HKEEP.out)
          have HRW3 : Hid (v3.rowIs (w.heap.size + 1) 4 n (mv tr)) := Lib.hid (HRW.out.of_block (HKEEP.out.block _ HRW.out.lt))
          obtain ⟨⟨s0, s1, s2⟩, s3, s4⟩ := HS1.out
          have f4 := HRW3.out.frozen k
          have n3 : (v3.setCell ⟨w.heap.size + 1, k, none⟩ (.bool true)).cell? ⟨b, o + j, none⟩ = some (.int .i64 (k : Int)) := by
            rw [World.cell?_setCell_other _ _ _ _ (by intro h1; injection h1 with h2 _; have := HBW.out; omega)]; exact s3
          have HT4 : Hid (Turn (fun q => q = w.heap.size + 1) w2 (v3.setCell ⟨w.heap.size + 1, k, none⟩ (.bool true))) := Lib.hid (HT3.out.set _ _ rfl)
          have HRW4 : Hid ((v3.setCell ⟨w.heap.size + 1, k, none⟩ (.bool true)).rowIs (w.heap.size + 1) 4 n (mv (tr ++ [(k, (-1))]))) := Lib.hid (mv_step (-1) HRW3.out)
          have HO4 : Hid (OI w2.heap.size (v3.setCell ⟨w.heap.size + 1, k, none⟩ (.bool true)) (.slice Aq lq cq) (waitL tr 0)) := Lib.hid (OI.turn (T := fun q => q = w.heap.size + 1) HO3.out ((Turn.refl _ _).set _ _ rfl) (fun q hq => by omega))
          have HOK4 : Hid (TrOk n (tr ++ [(k, (-1))])) := Lib.hid (HOK.out.snoc (-1) hk HMF.out)
          have hwz : w2.heap.size ≤ (v3.setCell ⟨w.heap.size + 1, k, none⟩ (.bool true)).heap.size := HT4.out.size
          have HLN : Hid ((waitL tr 0).length + 1 ≤ 1000000) := Lib.hid (by rw [waitL_len]; have := HOK.out.len; omega)
          have HLQ4 : Hid (lq + 1 = (waitL (tr ++ [(k, (-1))]) 0).length) := Lib.hid (by rw [opens_snoc, List.length_append, HLQ.out]; rfl)
          clear s0 s1 s2
          go_upto_region 8 with (fail)
          generalize v3.setCell ⟨w.heap.size + 1, k, none⟩ (.bool true) = w4 at *
          go_upto_region 5 with (at_builtin; refine append_one rfl (.tmp 43) (.tmp 48) rfl w2.heap.size _ (waitL tr 0) rfl HO4.out (k : Int) rfl HLN.out hwz ?_; intro v5 w5 ho5 hb5; rw [← opens_snoc tr k (-1)] at ho5; obtain ⟨A5q, c5q, rfl, _⟩ := ho5.form; rw [← HLQ4.out] at ho5 ⊢; have HO5 := Lib.hid ho5; have HB5 := Lib.hid hb5; clear ho5 hb5)
          have HT5 : Hid (Turn (fun q => q = w.heap.size + 1) w2 w5) := Lib.hid (HT4.out.then_below HB5.out)
          have HRW5 : Hid (w5.rowIs (w.heap.size + 1) 4 n (mv (tr ++ [(k, (-1))]))) := Lib.hid (HRW4.out.of_block (HB5.out.block _ (by omega)))
          clear n3 f4 s3 s4
          go_wp2_with fail
          go_roundw
          case rel => exact ⟨j + 1, tr ++ [(k, (-1))], A5q, lq + 1, c5q, rfl, by go_num, by omega, HLQ4, HO5, HRW5, HT5, HOK4, HE⟩
          case measure => simp [intOf]; omega
      · have hnd2 : nodeB n z = false := by simpa using hnd
        have HND := Lib.hid hnd2
        have HE : Hid ((rowF n (fun _ => true) (-1) (edgesF starts) []).1 = (rowF n (fun _ => true) (-1) ((edgesF starts).drop (j + 1)) tr).1) := Lib.hid (by rw [HRF.out, HED.out]; rw [rowF_skip (by simp only; rw [hnd2]; rfl)])
        clear hnd hnd2
        have HV : Hid (∀ W, Below wr.heap.size wr W → (W.cell? ⟨w.heap.size, 0, none⟩ = some (.slice A1 n1 c1) ∧ W.cell? ⟨w.heap.size, 1, none⟩ = some (.slice A2 n c2) ∧ W.cell? ⟨w.heap.size, 2, none⟩ = some (.slice A3 n3 c3)) ∧ W.cell? ⟨b, o + j, none⟩ = some (.int .i64 z)) := Lib.hid (fun W h => ⟨HBXW.out.below h, (h.cell (p := ⟨b, o + j, none⟩) HBWR.out).trans D1.out⟩)
        have HKEEP : Hid (Below wr.heap.size wr wr.drew) := Lib.hid (Below.refl _ _).drew
        go_upto_region 6 with (fail)
        refine wp_region_held_drew (S := (fun W => (W.cell? ⟨w.heap.size, 0, none⟩ = some (.slice A1 n1 c1) ∧ W.cell? ⟨w.heap.size, 1, none⟩ = some (.slice A2 n c2) ∧ W.cell? ⟨w.heap.size, 2, none⟩ = some (.slice A3 n3 c3)) ∧ W.cell? ⟨b, o + j, none⟩ = some (.int .i64 z))) (by kernel_rfl) (HV.out _ HKEEP.out) ?_
        intro hS0
        have HS0 := Lib.hid hS0
        clear hS0
        simp only [Array.replicate, List.replicate]
        refine wpAnyH_take (i := 0) (oi := ⟨some 21, _, _, _, _, _⟩) (v := .agg #[.slice A1 n1 c1, .slice A2 n c2, .slice A3 n3 c3]) rfl (by kernel_rfl) (by kernel_rfl) (by kernel_rfl) (fun _ _ _ h => h) (Or.inl ⟨by kernel_rfl, fun w9 hS => ?_⟩) HS0.out ?_
        · obtain ⟨⟨s0, s1, s2⟩, s3⟩ := hS
          go_simp
        try simp only [Act.put, List.setIfInBounds_toArray, List.set_cons_zero, List.set_cons_succ]
        refine wpAnyH_take (i := 1) (oi := ⟨some 22, _, _, _, _, _⟩) (v := .slice (some ⟨b, o, none⟩) m cs) rfl (by kernel_rfl) (by kernel_rfl) (by kernel_rfl) (fun _ _ _ h => h) (Or.inl ⟨by kernel_rfl, fun w9 hS => ?_⟩) HS0.out ?_
        · obtain ⟨⟨s0, s1, s2⟩, s3⟩ := hS
          go_simp
        try simp only [Act.put, List.setIfInBounds_toArray, List.set_cons_zero, List.set_cons_succ]
        refine wpAnyH_take (i := 2) (oi := ⟨some 23, _, _, _, _, _⟩) (v := .int .i64 (j : Int)) rfl (by kernel_rfl) (by kernel_rfl) (by kernel_rfl) (fun _ _ _ h => h) (Or.inl ⟨by kernel_rfl, fun w9 hS => ?_⟩) HS0.out ?_
        · obtain ⟨⟨s0, s1, s2⟩, s3⟩ := hS
          go_simp
        try simp only [Act.put, List.setIfInBounds_toArray, List.set_cons_zero, List.set_cons_succ]
        refine wpAnyH_take (i := 3) (oi := ⟨some 24, _, _, _, _, _⟩) (v := .pointer (some ⟨b, o + j, none⟩)) rfl (by kernel_rfl) (by kernel_rfl) (by kernel_rfl) (fun _ _ _ h => h) (Or.inl ⟨by kernel_rfl, fun w9 hS => ?_⟩) HS0.out ?_
        · obtain ⟨⟨s0, s1, s2⟩, s3⟩ := hS
          go_simp
        try simp only [Act.put, List.setIfInBounds_toArray, List.set_cons_zero, List.set_cons_succ]
        refine wpAnyH_take (i := 4) (oi := ⟨some 25, _, _, _, _, _⟩) (v := .int .i64 z) rfl (by kernel_rfl) (by kernel_rfl) (by kernel_rfl) (fun _ _ _ h => h) (Or.inl ⟨by kernel_rfl, fun w9 hS => ?_⟩) HS0.out ?_
        · obtain ⟨⟨s0, s1, s2⟩, s3⟩ := hS
          go_simp
        try simp only [Act.put, List.setIfInBounds_toArray, List.set_cons_zero, List.set_cons_succ]
        refine wpAnyH_ready (rs := [5]) (by kernel_rfl) (by simp) ?_
        refine AllReadyH.cons (o := ⟨some 26, _, _, _, _, _⟩) rfl (fun K hK => ?_) AllReadyH.nil
        rw [if_pos (by kernel_rfl)]
        go_simp
        go_at_call 33
        refine (node_any _ _ A2 n c2 _ _).mono ?_
        rw [HND.out]
        rintro e v3 ⟨rfl, hb3⟩
        have HKEEP : Hid (Below wr.heap.size wr v3) := Lib.hid (HKEEP.out.trans (hb3.mono HKEEP.out.size))
        have HS1 : Hid _ := Lib.hid (HV.out v3 HKEEP.out)
        refine hK.out _ _ HS1.out (fun _ => ?_)
        clear hK K hb3
        try simp only [Act.put, List.setIfInBounds_toArray, List.set_cons_zero, List.set_cons_succ]
        refine wpAnyH_take (i := 6) (oi := ⟨some 27, _, _, _, _, _⟩) (v := .bool false) rfl (by kernel_rfl) (by kernel_rfl) (by kernel_rfl) (fun _ _ _ h => h) (Or.inl ⟨by kernel_rfl, fun w9 hS => ?_⟩) HS1.out ?_
        · obtain ⟨⟨s0, s1, s2⟩, s3⟩ := hS
          go_simp
        try simp only [Act.put, List.setIfInBounds_toArray, List.set_cons_zero, List.set_cons_succ]
        refine wpAnyH_take (i := 7) (oi := ⟨some 28, _, _, _, _, _⟩) (v := undef) rfl (by kernel_rfl) (by kernel_rfl) (by kernel_rfl) (fun _ _ _ h => h) (Or.inr ⟨by kernel_rfl, rfl⟩) HS1.out ?_
        try simp only [Act.put, List.setIfInBounds_toArray, List.set_cons_zero, List.set_cons_succ]
        refine wpAnyH_take (i := 8) (oi := ⟨some 29, _, _, _, _, _⟩) (v := undef) rfl (by kernel_rfl) (by kernel_rfl) (by kernel_rfl) (fun _ _ _ h => h) (Or.inr ⟨by kernel_rfl, rfl⟩) HS1.out ?_
        try simp only [Act.put, List.setIfInBounds_toArray, List.set_cons_zero, List.set_cons_succ]
        refine wpAnyH_take (i := 9) (oi := ⟨some 30, _, _, _, _, _⟩) (v := undef) rfl (by kernel_rfl) (by kernel_rfl) (by kernel_rfl) (fun _ _ _ h => h) (Or.inr ⟨by kernel_rfl, rfl⟩) HS1.out ?_
        try simp only [Act.put, List.setIfInBounds_toArray, List.set_cons_zero, List.set_cons_succ]
        refine wpAnyH_take (i := 10) (oi := ⟨some 31, _, _, _, _, _⟩) (v := undef) rfl (by kernel_rfl) (by kernel_rfl) (by kernel_rfl) (fun _ _ _ h => h) (Or.inr ⟨by kernel_rfl, rfl⟩) HS1.out ?_
        try simp only [Act.put, List.setIfInBounds_toArray, List.set_cons_zero, List.set_cons_succ]
        refine wpAnyH_take (i := 11) (oi := ⟨some 32, _, _, _, _, _⟩) (v := undef) rfl (by kernel_rfl) (by kernel_rfl) (by kernel_rfl) (fun _ _ _ h => h) (Or.inr ⟨by kernel_rfl, rfl⟩) HS1.out ?_
        try simp only [Act.put, List.setIfInBounds_toArray, List.set_cons_zero, List.set_cons_succ]
        refine wpAnyH_take (i := 12) (oi := ⟨some 33, _, _, _, _, _⟩) (v := undef) rfl (by kernel_rfl) (by kernel_rfl) (by kernel_rfl) (fun _ _ _ h => h) (Or.inr ⟨by kernel_rfl, rfl⟩) HS1.out ?_
        try simp only [Act.put, List.setIfInBounds_toArray, List.set_cons_zero, List.set_cons_succ]
        refine wpAnyH_take (i := 13) (oi := ⟨some 34, _, _, _, _, _⟩) (v := undef) rfl (by kernel_rfl) (by kernel_rfl) (by kernel_rfl) (fun _ _ _ h => h) (Or.inr ⟨by kernel_rfl, rfl⟩) HS1.out ?_
        try simp only [Act.put, List.setIfInBounds_toArray, List.set_cons_zero, List.set_cons_succ]
        refine wpAnyH_take (i := 14) (oi := ⟨some 35, _, _, _, _, _⟩) (v := undef) rfl (by kernel_rfl) (by kernel_rfl) (by kernel_rfl) (fun _ _ _ h => h) (Or.inr ⟨by kernel_rfl, rfl⟩) HS1.out ?_
        try simp only [Act.put, List.setIfInBounds_toArray, List.set_cons_zero, List.set_cons_succ]
        refine wpAnyH_take (i := 15) (oi := ⟨some 36, _, _, _, _, _⟩) (v := .bool false) rfl (by kernel_rfl) (by kernel_rfl) (by kernel_rfl) (fun _ _ _ h => h) (Or.inl ⟨by kernel_rfl, fun w9 hS => ?_⟩) HS1.out ?_
        · obtain ⟨⟨s0, s1, s2⟩, s3⟩ := hS
          go_simp
        try simp only [Act.put, List.setIfInBounds_toArray, List.set_cons_zero, List.set_cons_succ]
        refine wpAnyH_done (by kernel_rfl) ?_ _
        have HT3 : Hid (Turn (fun q => q = w.heap.size + 1) w2 v3) := Lib.hid (HT.out.then_below (HKEEP.out.mono HT.out.size))
        have HO3 : Hid (OI w2.heap.size v3 (.slice Aq lq cq) (waitL tr 0)) := Lib.hid (OI.below HO.out HKEEP.out)
        have HRW3 : Hid (v3.rowIs (w.heap.size + 1) 4 n (mv tr)) := Lib.hid (HRW.out.of_block (HKEEP.out.block _ HRW.out.lt))
        obtain ⟨⟨s0, s1, s2⟩, s3⟩ := HS1.out
        clear s0 s1 s2 s3
        go_wp2_with fail
        go_roundw
        case rel => exact ⟨j + 1, tr, Aq, lq, cq, rfl, by go_num, by omega, HLQ, HO3, HRW3, HT3, HOK, HE⟩
        case measure => simp [intOf]; omega
    · obtain rfl : j = m := by omega
      have HFR : Hid (atF n rows n tr 0 = FIN) := Lib.hid (by rw [← HFA.out, HRF.out, List.drop_of_length_le (by rw [HEL.out]; exact Nat.le_refl _)]; rfl)
      clear HRF HFA hlt
      go_wp2_with fail
      go_loopw [6, 8] (fun q i wr => ∃ (h f : Nat) (tr : List (Nat × Int)) (Aq : Option Addr) (lq cq : Nat), q = .slice Aq lq cq ∧ i = .int .i64 h ∧ Hid (lq = (waitL tr 0).length) ∧ Hid (OI w2.heap.size wr (.slice Aq lq cq) (waitL tr 0)) ∧ Hid (wr.rowIs (w.heap.size + 1) 4 n (mv tr)) ∧ Hid (Turn (fun q => q = w.heap.size + 1) w2 wr) ∧ Hid (TrOk n tr) ∧
        h ≤ tr.length ∧ Hid (f + h = n) ∧ Hid (atF n rows f tr h = FIN)) (fun _ i _ => n - (intOf i).toNat)
      case atStart => exact ⟨0, n, tr, Aq, lq, cq, rfl, rfl, HLQ, HO, HRW, HT, HOK, Nat.zero_le _, Lib.hid (Nat.add_zero n), HFR⟩
      case round =>
        clear HLQ HO HRW HT HOK HFR
        obtain ⟨h, f, tr0, Aq, lq, cq, rfl, rfl, HLQ, HO, HRW, HT, HOK, hh, HFH, HFA⟩ := hrel
        have hlq : lq = tr0.length := by rw [HLQ.out, waitL_len, Nat.sub_zero]
        by_cases hlt : h < lq
        · have hht : h < tr0.length := by omega
          have hk0 := HOK.out.at_ hht
          have hhn : h < n := by have := HOK.out.len; omega
          obtain ⟨f', HF'⟩ : ∃ f', Hid (f = f' + 1) := ⟨f - 1, Lib.hid (by have := HFH.out; have := HOK.out.len; omega)⟩
          rw [HF'.out] at HFA HFH
          have HAN := Lib.hid (atF_next (n := n) (rows := rows) (f := f') hht)
          have hcell : ∃ g, Aq = some ⟨g, 0, none⟩ ∧ wr.cell? ⟨g, h, none⟩ = some (.int .i64 ((tr0.getD h (0, 0)).1 : Int)) := by
            obtain ⟨g, cur, e, _, hg, _⟩ := HO.out.block' (by omega) HLQ.out
            refine ⟨g, e, ?_⟩
            obtain ⟨A', c', e2, i2⟩ := HO.out.form
            injection e2 with e2 e3 e4
            subst e2
            obtain ⟨b', o', e5, _, hc⟩ := i2 (by omega)
            rw [e] at e5
            injection e5 with e5
            injection e5 with e5 e6
            have := hc h (by omega)
            rw [← e5, ← e6, Nat.zero_add] at this
            rw [this]
            simp [waitL, List.getD, hht]
          generalize (tr0.getD h (0, 0)).1 = k0 at hcell hk0 HAN
          obtain ⟨g, rfl, d9⟩ := hcell
          obtain ⟨hbx, hkeepw, hzz⟩ := HKP.out wr HT.out
          obtain ⟨br, fr, rfl, hbr, hcr⟩ := HR.out (by rw [← HN.out]; omega)
          obtain ⟨A5, c5, e7, hl5, hm5, hp5⟩ := hcr k0 (by rw [← HN.out]; exact hk0)
          have d7 : wr.cell? ⟨br, fr + k0, none⟩ = some (.slice A5 (rows.getD k0 []).length c5) := (World.cell?_of_block (w := w) (a := ⟨br, fr + k0, none⟩) (hkeepw br hbr)).trans e7
          have hm6 : (rows.getD k0 []).length ≤ 9223372036854775807 := by unfold maxLen at hm5; omega
          obtain ⟨row, HROW⟩ : ∃ row, Hid (rows.getD k0 [] = row) := ⟨_, Lib.hid rfl⟩
          rw [HROW.out] at d7 hm6 hp5 HAN
          obtain ⟨rl, HRL⟩ : ∃ rl, Hid (row.length = rl) := ⟨_, Lib.hid rfl⟩
          rw [HRL.out] at d7 hm6
          have HP5 := Lib.hid hp5
          have HLL := Lib.hid hht
          obtain ⟨q0, q1, q2⟩ := hbx
          clear hcr e7 hl5 hm5 hp5 hkeepw hlq hht
          go_wp2_with fail
          go_quiet (fail)
          go_wp2_with fail
          clear q0 q1 q2 d7 d9
          have HT : Hid (Turn (fun q => q = w.heap.size + 1) w2 (wr.drewN nq)) := Lib.hid (HT.out.drewN _)
          have HO : Hid (OI w2.heap.size (wr.drewN nq) (.slice (some ⟨g, 0, none⟩) lq cq) (waitL tr0 0)) := HO
          have HRW : Hid ((wr.drewN nq).rowIs (w.heap.size + 1) 4 n (mv tr0)) := HRW
          generalize wr.drewN nq = wx at *
          obtain ⟨a, HA⟩ : ∃ a : Int, Hid ((k0 : Int) = a) := ⟨_, Lib.hid rfl⟩
          rw [HA.out] at HAN
          go_loopw [6, 10] (fun q i wr => ∃ (j : Nat) (tr : List (Nat × Int)) (Aq : Option Addr) (lq cq : Nat), q = .slice Aq lq cq ∧ i = .int .i64 j ∧ j ≤ rl ∧ Hid (lq = (waitL tr 0).length) ∧ Hid (OI w2.heap.size wr (.slice Aq lq cq) (waitL tr 0)) ∧ Hid (wr.rowIs (w.heap.size + 1) 4 n (mv tr)) ∧ Hid (Turn (fun q => q = w.heap.size + 1) w2 wr) ∧ Hid (TrOk n tr) ∧
            Hid ((rowF n (fun _ => true) a row tr0).1 = (rowF n (fun _ => true) a (row.drop j) tr).1)) (fun _ i _ => rl - (intOf i).toNat)
          case atStart => exact ⟨0, tr0, _, lq, cq, rfl, rfl, Nat.zero_le _, HLQ, HO, HRW, HT, HOK, Lib.hid rfl⟩
          case round =>
            clear HLQ HO HRW HT HOK
            obtain ⟨j, tr, Aq, lq, cq, rfl, rfl, hj, HLQ, HO, HRW, HT, HOK, HRF⟩ := hrel
            by_cases hlt2 : j < rl
            · have hjl : j < row.length := by rw [HRL.out]; exact hlt2
              obtain ⟨hbx, hkeepw, hzz⟩ := HKP.out wr HT.out
              obtain ⟨b, o, rfl, hb, hc⟩ := HP5.out (by omega)
              have d1 : wr.cell? ⟨b, o + j * 2, none⟩ = some (.int .i64 (row.getD j (0, 0)).1) := (World.cell?_of_block (w := w) (a := ⟨b, o + j * 2, none⟩) (hkeepw b hb)).trans (hc j hjl).1
              have HED : Hid (row.drop j = row.getD j (0, 0) :: row.drop (j + 1)) := Lib.hid (by rw [List.drop_eq_getElem_cons hjl]; simp [List.getD, hjl])
              clear hc hkeepw
              generalize row.getD j (0, 0) = e at d1 HED
              obtain ⟨z, ac⟩ := e
              simp only at d1
              have D1 := Lib.hid d1
              have HBW := Lib.hid hb
              have HBWR : Hid (b < wr.heap.size) := Lib.hid (by omega)
              have HBXW := Lib.hid hbx
              clear d1 hbx
              by_cases hnd : nodeB n z = true
              · obtain ⟨k, rfl, hk⟩ : ∃ k : Nat, z = (k : Int) ∧ k < n := by
                  unfold nodeB at hnd
                  have h2 := of_decide_eq_true hnd
                  exact ⟨z.toNat, by omega, by omega⟩
                have HND := Lib.hid hnd
                have m1 : wr.cell? ⟨w.heap.size + 1, k, none⟩ = some (.bool (metB tr k)) := HRW.out.cell hk
                by_cases hme : metB tr k = true
                · rw [hme] at m1
                  have M1 := Lib.hid m1
                  have HE : Hid ((rowF n (fun _ => true) a row tr0).1 = (rowF n (fun _ => true) a (row.drop (j + 1)) tr).1) := Lib.hid (by rw [HRF.out, HED.out]; rw [rowF_skip (by simp only [Int.toNat_natCast]; rw [hme]; simp)])
                  clear hme m1 hnd
                  have HV : Hid (∀ W, Below wr.heap.size wr W → (W.cell? ⟨w.heap.size, 0, none⟩ = some (.slice A1 n1 c1) ∧ W.cell? ⟨w.heap.size, 1, none⟩ = some (.slice (some ⟨br, fr, none⟩) n c2) ∧ W.cell? ⟨w.heap.size, 2, none⟩ = some (.slice A3 n3 c3)) ∧ W.cell? ⟨b, o + j * 2, none⟩ = some (.int .i64 (k : Int)) ∧ W.cell? ⟨w.heap.size + 1, k, none⟩ = some (.bool true)) := Lib.hid (fun W h => ⟨HBXW.out.below h, (h.cell (p := ⟨b, o + j * 2, none⟩) HBWR.out).trans D1.out, (h.cell (p := ⟨w.heap.size + 1, k, none⟩) HRW.out.lt).trans M1.out⟩)
                  have HKEEP : Hid (Below wr.heap.size wr wr.drew) := Lib.hid (Below.refl _ _).drew
                  go_upto_region 16 with (fail)
                  refine wp_region_held_drew (S := (fun W => (W.cell? ⟨w.heap.size, 0, none⟩ = some (.slice A1 n1 c1) ∧ W.cell? ⟨w.heap.size, 1, none⟩ = some (.slice (some ⟨br, fr, none⟩) n c2) ∧ W.cell? ⟨w.heap.size, 2, none⟩ = some (.slice A3 n3 c3)) ∧ W.cell? ⟨b, o + j * 2, none⟩ = some (.int .i64 (k : Int)) ∧ W.cell? ⟨w.heap.size + 1, k, none⟩ = some (.bool true))) (by kernel_rfl) (HV.out _ HKEEP.out) ?_
                  intro hS0
                  have HS0 := Lib.hid hS0
                  clear hS0
                  simp only [Array.replicate, List.replicate]
                  refine wpAnyH_take (i := 0) (oi := ⟨some 70, _, _, _, _, _⟩) (v := .agg #[.slice A1 n1 c1, .slice (some ⟨br, fr, none⟩) n c2, .slice A3 n3 c3]) rfl (by kernel_rfl) (by kernel_rfl) (by kernel_rfl) (fun _ _ _ h => h) (Or.inl ⟨by kernel_rfl, fun w9 hS => ?_⟩) HS0.out ?_
                  · obtain ⟨⟨s0, s1, s2⟩, s3, s4⟩ := hS
                    go_simp
                  try simp only [Act.put, List.setIfInBounds_toArray, List.set_cons_zero, List.set_cons_succ]
                  refine wpAnyH_take (i := 1) (oi := ⟨some 71, _, _, _, _, _⟩) (v := .slice (some ⟨b, o, none⟩) rl c5) rfl (by kernel_rfl) (by kernel_rfl) (by kernel_rfl) (fun _ _ _ h => h) (Or.inl ⟨by kernel_rfl, fun w9 hS => ?_⟩) HS0.out ?_
                  · obtain ⟨⟨s0, s1, s2⟩, s3, s4⟩ := hS
                    go_simp
                  try simp only [Act.put, List.setIfInBounds_toArray, List.set_cons_zero, List.set_cons_succ]
                  refine wpAnyH_take (i := 2) (oi := ⟨some 72, _, _, _, _, _⟩) (v := .int .i64 (j : Int)) rfl (by kernel_rfl) (by kernel_rfl) (by kernel_rfl) (fun _ _ _ h => h) (Or.inl ⟨by kernel_rfl, fun w9 hS => ?_⟩) HS0.out ?_
                  · obtain ⟨⟨s0, s1, s2⟩, s3, s4⟩ := hS
                    go_simp
                  try simp only [Act.put, List.setIfInBounds_toArray, List.set_cons_zero, List.set_cons_succ]
                  refine wpAnyH_take (i := 3) (oi := ⟨some 73, _, _, _, _, _⟩) (v := .pointer (some ⟨b, o + j * 2, none⟩)) rfl (by kernel_rfl) (by kernel_rfl) (by kernel_rfl) (fun _ _ _ h => h) (Or.inl ⟨by kernel_rfl, fun w9 hS => ?_⟩) HS0.out ?_
                  · obtain ⟨⟨s0, s1, s2⟩, s3, s4⟩ := hS
                    go_simp
                  try simp only [Act.put, List.setIfInBounds_toArray, List.set_cons_zero, List.set_cons_succ]
                  refine wpAnyH_take (i := 4) (oi := ⟨some 74, _, _, _, _, _⟩) (v := .pointer (some ⟨b, o + j * 2, none⟩)) rfl (by kernel_rfl) (by kernel_rfl) (by kernel_rfl) (fun _ _ _ h => h) (Or.inl ⟨by kernel_rfl, fun w9 hS => ?_⟩) HS0.out ?_
                  · obtain ⟨⟨s0, s1, s2⟩, s3, s4⟩ := hS
                    go_simp
                  try simp only [Act.put, List.setIfInBounds_toArray, List.set_cons_zero, List.set_cons_succ]
                  refine wpAnyH_take (i := 5) (oi := ⟨some 75, _, _, _, _, _⟩) (v := .int .i64 (k : Int)) rfl (by kernel_rfl) (by kernel_rfl) (by kernel_rfl) (fun _ _ _ h => h) (Or.inl ⟨by kernel_rfl, fun w9 hS => ?_⟩) HS0.out ?_
                  · obtain ⟨⟨s0, s1, s2⟩, s3, s4⟩ := hS
                    go_simp
                  try simp only [Act.put, List.setIfInBounds_toArray, List.set_cons_zero, List.set_cons_succ]
                  refine wpAnyH_ready (rs := [6]) (by kernel_rfl) (by simp) ?_
                  refine AllReadyH.cons (o := ⟨some 76, _, _, _, _, _⟩) rfl (fun K hK => ?_) AllReadyH.nil
                  rw [if_pos (by kernel_rfl)]
                  go_simp
                  go_at_call 33
                  refine (node_any _ _ (some ⟨br, fr, none⟩) n c2 _ _).mono ?_
                  rw [HND.out]
                  rintro e v3 ⟨rfl, hb3⟩
                  have HKEEP : Hid (Below wr.heap.size wr v3) := Lib.hid (HKEEP.out.trans (hb3.mono HKEEP.out.size))
                  have HS1 : Hid _ := Lib.hid (HV.out v3 HKEEP.out)
                  refine hK.out _ _ HS1.out (fun _ => ?_)
                  clear hK K hb3
                  try simp only [Act.put, List.setIfInBounds_toArray, List.set_cons_zero, List.set_cons_succ]
                  refine wpAnyH_take (i := 7) (oi := ⟨some 77, _, _, _, _, _⟩) (v := .bool true) rfl (by kernel_rfl) (by kernel_rfl) (by kernel_rfl) (fun _ _ _ h => h) (Or.inl ⟨by kernel_rfl, fun w9 hS => ?_⟩) HS1.out ?_
                  · obtain ⟨⟨s0, s1, s2⟩, s3, s4⟩ := hS
                    go_simp
                  try simp only [Act.put, List.setIfInBounds_toArray, List.set_cons_zero, List.set_cons_succ]
                  refine wpAnyH_take (i := 8) (oi := ⟨some 78, _, _, _, _, _⟩) (v := .slice (some ⟨w.heap.size + 1, 0, none⟩) n n) rfl (by kernel_rfl) (by kernel_rfl) (by kernel_rfl) (fun _ _ _ h => h) (Or.inl ⟨by kernel_rfl, fun w9 hS => ?_⟩) HS1.out ?_
                  · obtain ⟨⟨s0, s1, s2⟩, s3, s4⟩ := hS
                    go_simp
                  try simp only [Act.put, List.setIfInBounds_toArray, List.set_cons_zero, List.set_cons_succ]
                  refine wpAnyH_take (i := 9) (oi := ⟨some 79, _, _, _, _, _⟩) (v := .slice (some ⟨b, o, none⟩) rl c5) rfl (by kernel_rfl) (by kernel_rfl) (by kernel_rfl) (fun _ _ _ h => h) (Or.inl ⟨by kernel_rfl, fun w9 hS => ?_⟩) HS1.out ?_
                  · obtain ⟨⟨s0, s1, s2⟩, s3, s4⟩ := hS
                    go_simp
                  try simp only [Act.put, List.setIfInBounds_toArray, List.set_cons_zero, List.set_cons_succ]
                  refine wpAnyH_take (i := 10) (oi := ⟨some 80, _, _, _, _, _⟩) (v := .int .i64 (j : Int)) rfl (by kernel_rfl) (by kernel_rfl) (by kernel_rfl) (fun _ _ _ h => h) (Or.inl ⟨by kernel_rfl, fun w9 hS => ?_⟩) HS1.out ?_
                  · obtain ⟨⟨s0, s1, s2⟩, s3, s4⟩ := hS
                    go_simp
                  try simp only [Act.put, List.setIfInBounds_toArray, List.set_cons_zero, List.set_cons_succ]
                  refine wpAnyH_take (i := 11) (oi := ⟨some 81, _, _, _, _, _⟩) (v := .pointer (some ⟨b, o + j * 2, none⟩)) rfl (by kernel_rfl) (by kernel_rfl) (by kernel_rfl) (fun _ _ _ h => h) (Or.inl ⟨by kernel_rfl, fun w9 hS => ?_⟩) HS1.out ?_
                  · obtain ⟨⟨s0, s1, s2⟩, s3, s4⟩ := hS
                    go_simp
                  try simp only [Act.put, List.setIfInBounds_toArray, List.set_cons_zero, List.set_cons_succ]
                  refine wpAnyH_take (i := 12) (oi := ⟨some 82, _, _, _, _, _⟩) (v := .pointer (some ⟨b, o + j * 2, none⟩)) rfl (by kernel_rfl) (by kernel_rfl) (by kernel_rfl) (fun _ _ _ h => h) (Or.inl ⟨by kernel_rfl, fun w9 hS => ?_⟩) HS1.out ?_
                  · obtain ⟨⟨s0, s1, s2⟩, s3, s4⟩ := hS
                    go_simp
                  try simp only [Act.put, List.setIfInBounds_toArray, List.set_cons_zero, List.set_cons_succ]
                  refine wpAnyH_take (i := 13) (oi := ⟨some 83, _, _, _, _, _⟩) (v := .int .i64 (k : Int)) rfl (by kernel_rfl) (by kernel_rfl) (by kernel_rfl) (fun _ _ _ h => h) (Or.inl ⟨by kernel_rfl, fun w9 hS => ?_⟩) HS1.out ?_
                  · obtain ⟨⟨s0, s1, s2⟩, s3, s4⟩ := hS
                    go_simp
                  try simp only [Act.put, List.setIfInBounds_toArray, List.set_cons_zero, List.set_cons_succ]
                  refine wpAnyH_take (i := 14) (oi := ⟨some 84, _, _, _, _, _⟩) (v := .pointer (some ⟨w.heap.size + 1, k, none⟩)) rfl (by kernel_rfl) (by kernel_rfl) (by kernel_rfl) (fun _ _ _ h => h) (Or.inl ⟨by kernel_rfl, fun w9 hS => ?_⟩) HS1.out ?_
                  · obtain ⟨⟨s0, s1, s2⟩, s3, s4⟩ := hS
                    go_simp
                  try simp only [Act.put, List.setIfInBounds_toArray, List.set_cons_zero, List.set_cons_succ]
                  refine wpAnyH_take (i := 15) (oi := ⟨some 85, _, _, _, _, _⟩) (v := .bool true) rfl (by kernel_rfl) (by kernel_rfl) (by kernel_rfl) (fun _ _ _ h => h) (Or.inl ⟨by kernel_rfl, fun w9 hS => ?_⟩) HS1.out ?_
                  · obtain ⟨⟨s0, s1, s2⟩, s3, s4⟩ := hS
                    go_simp
                  try simp only [Act.put, List.setIfInBounds_toArray, List.set_cons_zero, List.set_cons_succ]
                  refine wpAnyH_take (i := 16) (oi := ⟨some 86, _, _, _, _, _⟩) (v := .bool false) rfl (by kernel_rfl) (by kernel_rfl) (by kernel_rfl) (fun _ _ _ h => h) (Or.inl ⟨by kernel_rfl, fun w9 hS => ?_⟩) HS1.out ?_
                  · obtain ⟨⟨s0, s1, s2⟩, s3, s4⟩ := hS
                    go_simp
                  try simp only [Act.put, List.setIfInBounds_toArray, List.set_cons_zero, List.set_cons_succ]
                  refine wpAnyH_take (i := 17) (oi := ⟨some 87, _, _, _, _, _⟩) (v := .bool false) rfl (by kernel_rfl) (by kernel_rfl) (by kernel_rfl) (fun _ _ _ h => h) (Or.inl ⟨by kernel_rfl, fun w9 hS => ?_⟩) HS1.out ?_
                  · obtain ⟨⟨s0, s1, s2⟩, s3, s4⟩ := hS
                    go_simp
                  try simp only [Act.put, List.setIfInBounds_toArray, List.set_cons_zero, List.set_cons_succ]
                  refine wpAnyH_done (by kernel_rfl) ?_ _
                  have HT3 : Hid (Turn (fun q => q = w.heap.size + 1) w2 v3) := Lib.hid (HT.out.then_below (HKEEP.out.mono HT.out.size))
                  have HO3 : Hid (OI w2.heap.size v3 (.slice Aq lq cq) (waitL tr 0)) := Lib.hid (OI.below HO.out HKEEP.out)
                  have HRW3 : Hid (v3.rowIs (w.heap.size + 1) 4 n (mv tr)) := Lib.hid (HRW.out.of_block (HKEEP.out.block _ HRW.out.lt))
                  obtain ⟨⟨s0, s1, s2⟩, s3, s4⟩ := HS1.out
                  clear s0 s1 s2 s3 s4
                  go_wp2_with fail
                  go_roundw
                  case rel => exact ⟨j + 1, tr, Aq, lq, cq, rfl, by go_num, by omega, HLQ, HO3, HRW3, HT3, HOK, HE⟩
                  case measure => simp [intOf]; omega
                · have hme2 : metB tr k = false := by simpa using hme
                  have HMF := Lib.hid hme2
                  rw [hme2] at m1
                  have M1 := Lib.hid m1
                  have HE : Hid ((rowF n (fun _ => true) a row tr0).1 = (rowF n (fun _ => true) a (row.drop (j + 1)) (tr ++ [(k, a)])).1) := Lib.hid (by rw [HRF.out, HED.out]; rw [rowF_go (by simp only; rw [HND.out, Int.toNat_natCast, hme2]; rfl) rfl, Int.toNat_natCast])
                  clear hme hme2 m1 hnd
                  have HV : Hid (∀ W, Below wr.heap.size wr W → (W.cell? ⟨w.heap.size, 0, none⟩ = some (.slice A1 n1 c1) ∧ W.cell? ⟨w.heap.size, 1, none⟩ = some (.slice (some ⟨br, fr, none⟩) n c2) ∧ W.cell? ⟨w.heap.size, 2, none⟩ = some (.slice A3 n3 c3)) ∧ W.cell? ⟨b, o + j * 2, none⟩ = some (.int .i64 (k : Int)) ∧ W.cell? ⟨w.heap.size + 1, k, none⟩ = some (.bool false)) := Lib.hid (fun W h => ⟨HBXW.out.below h, (h.cell (p := ⟨b, o + j * 2, none⟩) HBWR.out).trans D1.out, (h.cell (p := ⟨w.heap.size + 1, k, none⟩) HRW.out.lt).trans M1.out⟩)
                  have HKEEP : Hid (Below wr.heap.size wr wr.drew) := Lib.hid (Below.refl _ _).drew
                  go_upto_region 16 with (fail)
                  refine wp_region_held_drew (S := (fun W => (W.cell? ⟨w.heap.size, 0, none⟩ = some (.slice A1 n1 c1) ∧ W.cell? ⟨w.heap.size, 1, none⟩ = some (.slice (some ⟨br, fr, none⟩) n c2) ∧ W.cell? ⟨w.heap.size, 2, none⟩ = some (.slice A3 n3 c3)) ∧ W.cell? ⟨b, o + j * 2, none⟩ = some (.int .i64 (k : Int)) ∧ W.cell? ⟨w.heap.size + 1, k, none⟩ = some (.bool false))) (by kernel_rfl) (HV.out _ HKEEP.out) ?_
                  intro hS0
                  have HS0 := Lib.hid hS0
                  clear hS0
                  simp only [Array.replicate, List.replicate]
                  refine wpAnyH_take (i := 0) (oi := ⟨some 70, _, _, _, _, _⟩) (v := .agg #[.slice A1 n1 c1, .slice (some ⟨br, fr, none⟩) n c2, .slice A3 n3 c3]) rfl (by kernel_rfl) (by kernel_rfl) (by kernel_rfl) (fun _ _ _ h => h) (Or.inl ⟨by kernel_rfl, fun w9 hS => ?_⟩) HS0.out ?_
                  · obtain ⟨⟨s0, s1, s2⟩, s3, s4⟩ := hS
                    go_simp
                  try simp only [Act.put, List.setIfInBounds_toArray, List.set_cons_zero, List.set_cons_succ]
                  refine wpAnyH_take (i := 1) (oi := ⟨some 71, _, _, _, _, _⟩) (v := .slice (some ⟨b, o, none⟩) rl c5) rfl (by kernel_rfl) (by kernel_rfl) (by kernel_rfl) (fun _ _ _ h => h) (Or.inl ⟨by kernel_rfl, fun w9 hS => ?_⟩) HS0.out ?_
                  · obtain ⟨⟨s0, s1, s2⟩, s3, s4⟩ := hS
                    go_simp
                  try simp only [Act.put, List.setIfInBounds_toArray, List.set_cons_zero, List.set_cons_succ]
                  refine wpAnyH_take (i := 2) (oi := ⟨some 72, _, _, _, _, _⟩) (v := .int .i64 (j : Int)) rfl (by kernel_rfl) (by kernel_rfl) (by kernel_rfl) (fun _ _ _ h => h) (Or.inl ⟨by kernel_rfl, fun w9 hS => ?_⟩) HS0.out ?_
                  · obtain ⟨⟨s0, s1, s2⟩, s3, s4⟩ := hS
                    go_simp
                  try simp only [Act.put, List.setIfInBounds_toArray, List.set_cons_zero, List.set_cons_succ]
                  refine wpAnyH_take (i := 3) (oi := ⟨some 73, _, _, _, _, _⟩) (v := .pointer (some ⟨b, o + j * 2, none⟩)) rfl (by kernel_rfl) (by kernel_rfl) (by kernel_rfl) (fun _ _ _ h => h) (Or.inl ⟨by kernel_rfl, fun w9 hS => ?_⟩) HS0.out ?_
                  · obtain ⟨⟨s0, s1, s2⟩, s3, s4⟩ := hS
                    go_simp
                  try simp only [Act.put, List.setIfInBounds_toArray, List.set_cons_zero, List.set_cons_succ]
                  refine wpAnyH_take (i := 4) (oi := ⟨some 74, _, _, _, _, _⟩) (v := .pointer (some ⟨b, o + j * 2, none⟩)) rfl (by kernel_rfl) (by kernel_rfl) (by kernel_rfl) (fun _ _ _ h => h) (Or.inl ⟨by kernel_rfl, fun w9 hS => ?_⟩) HS0.out ?_
                  · obtain ⟨⟨s0, s1, s2⟩, s3, s4⟩ := hS
                    go_simp
                  try simp only [Act.put, List.setIfInBounds_toArray, List.set_cons_zero, List.set_cons_succ]
                  refine wpAnyH_take (i := 5) (oi := ⟨some 75, _, _, _, _, _⟩) (v := .int .i64 (k : Int)) rfl (by kernel_rfl) (by kernel_rfl) (by kernel_rfl) (fun _ _ _ h => h) (Or.inl ⟨by kernel_rfl, fun w9 hS => ?_⟩) HS0.out ?_
                  · obtain ⟨⟨s0, s1, s2⟩, s3, s4⟩ := hS
                    go_simp
                  try simp only [Act.put, List.setIfInBounds_toArray, List.set_cons_zero, List.set_cons_succ]
                  refine wpAnyH_ready (rs := [6]) (by kernel_rfl) (by simp) ?_
                  refine AllReadyH.cons (o := ⟨some 76, _, _, _, _, _⟩) rfl (fun K hK => ?_) AllReadyH.nil
                  rw [if_pos (by kernel_rfl)]
                  go_simp
                  go_at_call 33
                  refine (node_any _ _ (some ⟨br, fr, none⟩) n c2 _ _).mono ?_
                  rw [HND.out]
                  rintro e v3 ⟨rfl, hb3⟩
                  have HKEEP : Hid (Below wr.heap.size wr v3) := Lib.hid (HKEEP.out.trans (hb3.mono HKEEP.out.size))
                  have HS1 : Hid _ := Lib.hid (HV.out v3 HKEEP.out)
                  refine hK.out _ _ HS1.out (fun _ => ?_)
                  clear hK K hb3
                  try simp only [Act.put, List.setIfInBounds_toArray, List.set_cons_zero, List.set_cons_succ]
                  refine wpAnyH_take (i := 7) (oi := ⟨some 77, _, _, _, _, _⟩) (v := .bool true) rfl (by kernel_rfl) (by kernel_rfl) (by kernel_rfl) (fun _ _ _ h => h) (Or.inl ⟨by kernel_rfl, fun w9 hS => ?_⟩) HS1.out ?_
                  · obtain ⟨⟨s0, s1, s2⟩, s3, s4⟩ := hS
                    go_simp
                  try simp only [Act.put, List.setIfInBounds_toArray, List.set_cons_zero, List.set_cons_succ]
                  refine wpAnyH_take (i := 8) (oi := ⟨some 78, _, _, _, _, _⟩) (v := .slice (some ⟨w.heap.size + 1, 0, none⟩) n n) rfl (by kernel_rfl) (by kernel_rfl) (by kernel_rfl) (fun _ _ _ h => h) (Or.inl ⟨by kernel_rfl, fun w9 hS => ?_⟩) HS1.out ?_
                  · obtain ⟨⟨s0, s1, s2⟩, s3, s4⟩ := hS
                    go_simp
                  try simp only [Act.put, List.setIfInBounds_toArray, List.set_cons_zero, List.set_cons_succ]
                  refine wpAnyH_take (i := 9) (oi := ⟨some 79, _, _, _, _, _⟩) (v := .slice (some ⟨b, o, none⟩) rl c5) rfl (by kernel_rfl) (by kernel_rfl) (by kernel_rfl) (fun _ _ _ h => h) (Or.inl ⟨by kernel_rfl, fun w9 hS => ?_⟩) HS1.out ?_
                  · obtain ⟨⟨s0, s1, s2⟩, s3, s4⟩ := hS
                    go_simp
                  try simp only [Act.put, List.setIfInBounds_toArray, List.set_cons_zero, List.set_cons_succ]
                  refine wpAnyH_take (i := 10) (oi := ⟨some 80, _, _, _, _, _⟩) (v := .int .i64 (j : Int)) rfl (by kernel_rfl) (by kernel_rfl) (by kernel_rfl) (fun _ _ _ h => h) (Or.inl ⟨by kernel_rfl, fun w9 hS => ?_⟩) HS1.out ?_
                  · obtain ⟨⟨s0, s1, s2⟩, s3, s4⟩ := hS
                    go_simp
                  try simp only [Act.put, List.setIfInBounds_toArray, List.set_cons_zero, List.set_cons_succ]
                  refine wpAnyH_take (i := 11) (oi := ⟨some 81, _, _, _, _, _⟩) (v := .pointer (some ⟨b, o + j * 2, none⟩)) rfl (by kernel_rfl) (by kernel_rfl) (by kernel_rfl) (fun _ _ _ h => h) (Or.inl ⟨by kernel_rfl, fun w9 hS => ?_⟩) HS1.out ?_
                  · obtain ⟨⟨s0, s1, s2⟩, s3, s4⟩ := hS
                    go_simp
                  try simp only [Act.put, List.setIfInBounds_toArray, List.set_cons_zero, List.set_cons_succ]
                  refine wpAnyH_take (i := 12) (oi := ⟨some 82, _, _, _, _, _⟩) (v := .pointer (some ⟨b, o + j * 2, none⟩)) rfl (by kernel_rfl) (by kernel_rfl) (by kernel_rfl) (fun _ _ _ h => h) (Or.inl ⟨by kernel_rfl, fun w9 hS => ?_⟩) HS1.out ?_
                  · obtain ⟨⟨s0, s1, s2⟩, s3, s4⟩ := hS
                    go_simp
                  try simp only [Act.put, List.setIfInBounds_toArray, List.set_cons_zero, List.set_cons_succ]
                  refine wpAnyH_take (i := 13) (oi := ⟨some 83, _, _, _, _, _⟩) (v := .int .i64 (k : Int)) rfl (by kernel_rfl) (by kernel_rfl) (by kernel_rfl) (fun _ _ _ h => h) (Or.inl ⟨by kernel_rfl, fun w9 hS => ?_⟩) HS1.out ?_
                  · obtain ⟨⟨s0, s1, s2⟩, s3, s4⟩ := hS
                    go_simp
                  try simp only [Act.put, List.setIfInBounds_toArray, List.set_cons_zero, List.set_cons_succ]
                  refine wpAnyH_take (i := 14) (oi := ⟨some 84, _, _, _, _, _⟩) (v := .pointer (some ⟨w.heap.size + 1, k, none⟩)) rfl (by kernel_rfl) (by kernel_rfl) (by kernel_rfl) (fun _ _ _ h => h) (Or.inl ⟨by kernel_rfl, fun w9 hS => ?_⟩) HS1.out ?_
                  · obtain ⟨⟨s0, s1, s2⟩, s3, s4⟩ := hS
                    go_simp
                  try simp only [Act.put, List.setIfInBounds_toArray, List.set_cons_zero, List.set_cons_succ]
                  refine wpAnyH_take (i := 15) (oi := ⟨some 85, _, _, _, _, _⟩) (v := .bool false) rfl (by kernel_rfl) (by kernel_rfl) (by kernel_rfl) (fun _ _ _ h => h) (Or.inl ⟨by kernel_rfl, fun w9 hS => ?_⟩) HS1.out ?_
                  · obtain ⟨⟨s0, s1, s2⟩, s3, s4⟩ := hS
                    go_simp
                  try simp only [Act.put, List.setIfInBounds_toArray, List.set_cons_zero, List.set_cons_succ]
                  refine wpAnyH_take (i := 16) (oi := ⟨some 86, _, _, _, _, _⟩) (v := .bool true) rfl (by kernel_rfl) (by kernel_rfl) (by kernel_rfl) (fun _ _ _ h => h) (Or.inl ⟨by kernel_rfl, fun w9 hS => ?_⟩) HS1.out ?_
                  · obtain ⟨⟨s0, s1, s2⟩, s3, s4⟩ := hS
                    go_simp
                  try simp only [Act.put, List.setIfInBounds_toArray, List.set_cons_zero, List.set_cons_succ]
                  refine wpAnyH_take (i := 17) (oi := ⟨some 87, _, _, _, _, _⟩) (v := .bool true) rfl (by kernel_rfl) (by kernel_rfl) (by kernel_rfl) (fun _ _ _ h => h) (Or.inl ⟨by kernel_rfl, fun w9 hS => ?_⟩) HS1.out ?_
                  · obtain ⟨⟨s0, s1, s2⟩, s3, s4⟩ := hS
                    go_simp
                  try simp only [Act.put, List.setIfInBounds_toArray, List.set_cons_zero, List.set_cons_succ]
                  refine wpAnyH_done (by kernel_rfl) ?_ _
                  have HT3 : Hid (Turn (fun q => q = w.heap.size + 1) w2 v3) := Lib.hid (HT.out.then_below (HKEEP.out.mono HT.out.size))
                  have HO3 : Hid (OI w2.heap.size v3 (.slice Aq lq cq) (waitL tr 0)) := Lib.hid (OI.below HO.out HKEEP.out)
                  have HRW3 : Hid (v3.rowIs (w.heap.size + 1) 4 n (mv tr)) := Lib.hid (HRW.out.of_block (HKEEP.out.block _ HRW.out.lt))
                  obtain ⟨⟨s0, s1, s2⟩, s3, s4⟩ := HS1.out
                  have f4 := HRW3.out.frozen k
                  have n3 : (v3.setCell ⟨w.heap.size + 1, k, none⟩ (.bool true)).cell? ⟨b, o + j * 2, none⟩ = some (.int .i64 (k : Int)) := by
                    rw [World.cell?_setCell_other _ _ _ _ (by intro h1; injection h1 with h2 _; have := HBW.out; omega)]; exact s3
                  have HT4 : Hid (Turn (fun q => q = w.heap.size + 1) w2 (v3.setCell ⟨w.heap.size + 1, k, none⟩ (.bool true))) := Lib.hid (HT3.out.set _ _ rfl)
                  have HRW4 : Hid ((v3.setCell ⟨w.heap.size + 1, k, none⟩ (.bool true)).rowIs (w.heap.size + 1) 4 n (mv (tr ++ [(k, a)]))) := Lib.hid (mv_step a HRW3.out)
                  have HO4 : Hid (OI w2.heap.size (v3.setCell ⟨w.heap.size + 1, k, none⟩ (.bool true)) (.slice Aq lq cq) (waitL tr 0)) := Lib.hid (OI.turn (T := fun q => q = w.heap.size + 1) HO3.out ((Turn.refl _ _).set _ _ rfl) (fun q hq => by omega))
                  have HOK4 : Hid (TrOk n (tr ++ [(k, a)])) := Lib.hid (HOK.out.snoc a hk HMF.out)
                  have hwz : w2.heap.size ≤ (v3.setCell ⟨w.heap.size + 1, k, none⟩ (.bool true)).heap.size := HT4.out.size
                  have HLN : Hid ((waitL tr 0).length + 1 ≤ 1000000) := Lib.hid (by rw [waitL_len]; have := HOK.out.len; omega)
                  have HLQ4 : Hid (lq + 1 = (waitL (tr ++ [(k, a)]) 0).length) := Lib.hid (by rw [opens_snoc, List.length_append, HLQ.out]; rfl)
                  clear s0 s1 s2
                  go_upto_region 18 with (fail)
                  generalize v3.setCell ⟨w.heap.size + 1, k, none⟩ (.bool true) = w4 at *
                  go_upto_region 15 with (at_builtin; refine append_one rfl (.tmp 95) (.tmp 101) rfl w2.heap.size _ (waitL tr 0) rfl HO4.out (k : Int) rfl HLN.out hwz ?_; intro v5 w5 ho5 hb5; rw [← opens_snoc tr k a] at ho5; obtain ⟨A5q, c5q, rfl, _⟩ := ho5.form; rw [← HLQ4.out] at ho5 ⊢; have HO5 := Lib.hid ho5; have HB5 := Lib.hid hb5; clear ho5 hb5)
                  have HT5 : Hid (Turn (fun q => q = w.heap.size + 1) w2 w5) := Lib.hid (HT4.out.then_below HB5.out)
                  have HRW5 : Hid (w5.rowIs (w.heap.size + 1) 4 n (mv (tr ++ [(k, a)]))) := Lib.hid (HRW4.out.of_block (HB5.out.block _ (by omega)))
                  clear n3 f4 s3 s4
                  go_wp2_with fail
                  go_roundw
                  case rel => exact ⟨j + 1, tr ++ [(k, a)], A5q, lq + 1, c5q, rfl, by go_num, by omega, HLQ4, HO5, HRW5, HT5, HOK4, HE⟩
                  case measure => simp [intOf]; omega
              · have hnd2 : nodeB n z = false := by simpa using hnd
                have HND := Lib.hid hnd2
                have HE : Hid ((rowF n (fun _ => true) a row tr0).1 = (rowF n (fun _ => true) a (row.drop (j + 1)) tr).1) := Lib.hid (by rw [HRF.out, HED.out]; rw [rowF_skip (by simp only; rw [hnd2]; rfl)])
                clear hnd hnd2
                have HV : Hid (∀ W, Below wr.heap.size wr W → (W.cell? ⟨w.heap.size, 0, none⟩ = some (.slice A1 n1 c1) ∧ W.cell? ⟨w.heap.size, 1, none⟩ = some (.slice (some ⟨br, fr, none⟩) n c2) ∧ W.cell? ⟨w.heap.size, 2, none⟩ = some (.slice A3 n3 c3)) ∧ W.cell? ⟨b, o + j * 2, none⟩ = some (.int .i64 z)) := Lib.hid (fun W h => ⟨HBXW.out.below h, (h.cell (p := ⟨b, o + j * 2, none⟩) HBWR.out).trans D1.out⟩)
                have HKEEP : Hid (Below wr.heap.size wr wr.drew) := Lib.hid (Below.refl _ _).drew
                go_upto_region 16 with (fail)
                refine wp_region_held_drew (S := (fun W => (W.cell? ⟨w.heap.size, 0, none⟩ = some (.slice A1 n1 c1) ∧ W.cell? ⟨w.heap.size, 1, none⟩ = some (.slice (some ⟨br, fr, none⟩) n c2) ∧ W.cell? ⟨w.heap.size, 2, none⟩ = some (.slice A3 n3 c3)) ∧ W.cell? ⟨b, o + j * 2, none⟩ = some (.int .i64 z))) (by kernel_rfl) (HV.out _ HKEEP.out) ?_
                intro hS0
                have HS0 := Lib.hid hS0
                clear hS0
                simp only [Array.replicate, List.replicate]
                refine wpAnyH_take (i := 0) (oi := ⟨some 70, _, _, _, _, _⟩) (v := .agg #[.slice A1 n1 c1, .slice (some ⟨br, fr, none⟩) n c2, .slice A3 n3 c3]) rfl (by kernel_rfl) (by kernel_rfl) (by kernel_rfl) (fun _ _ _ h => h) (Or.inl ⟨by kernel_rfl, fun w9 hS => ?_⟩) HS0.out ?_
                · obtain ⟨⟨s0, s1, s2⟩, s3⟩ := hS
                  go_simp
                try simp only [Act.put, List.setIfInBounds_toArray, List.set_cons_zero, List.set_cons_succ]
                refine wpAnyH_take (i := 1) (oi := ⟨some 71, _, _, _, _, _⟩) (v := .slice (some ⟨b, o, none⟩) rl c5) rfl (by kernel_rfl) (by kernel_rfl) (by kernel_rfl) (fun _ _ _ h => h) (Or.inl ⟨by kernel_rfl, fun w9 hS => ?_⟩) HS0.out ?_
                · obtain ⟨⟨s0, s1, s2⟩, s3⟩ := hS
                  go_simp
                try simp only [Act.put, List.setIfInBounds_toArray, List.set_cons_zero, List.set_cons_succ]
                refine wpAnyH_take (i := 2) (oi := ⟨some 72, _, _, _, _, _⟩) (v := .int .i64 (j : Int)) rfl (by kernel_rfl) (by kernel_rfl) (by kernel_rfl) (fun _ _ _ h => h) (Or.inl ⟨by kernel_rfl, fun w9 hS => ?_⟩) HS0.out ?_
                · obtain ⟨⟨s0, s1, s2⟩, s3⟩ := hS
                  go_simp
                try simp only [Act.put, List.setIfInBounds_toArray, List.set_cons_zero, List.set_cons_succ]
                refine wpAnyH_take (i := 3) (oi := ⟨some 73, _, _, _, _, _⟩) (v := .pointer (some ⟨b, o + j * 2, none⟩)) rfl (by kernel_rfl) (by kernel_rfl) (by kernel_rfl) (fun _ _ _ h => h) (Or.inl ⟨by kernel_rfl, fun w9 hS => ?_⟩) HS0.out ?_
                · obtain ⟨⟨s0, s1, s2⟩, s3⟩ := hS
                  go_simp
                try simp only [Act.put, List.setIfInBounds_toArray, List.set_cons_zero, List.set_cons_succ]
                refine wpAnyH_take (i := 4) (oi := ⟨some 74, _, _, _, _, _⟩) (v := .pointer (some ⟨b, o + j * 2, none⟩)) rfl (by kernel_rfl) (by kernel_rfl) (by kernel_rfl) (fun _ _ _ h => h) (Or.inl ⟨by kernel_rfl, fun w9 hS => ?_⟩) HS0.out ?_
                · obtain ⟨⟨s0, s1, s2⟩, s3⟩ := hS
                  go_simp
                try simp only [Act.put, List.setIfInBounds_toArray, List.set_cons_zero, List.set_cons_succ]
                refine wpAnyH_take (i := 5) (oi := ⟨some 75, _, _, _, _, _⟩) (v := .int .i64 z) rfl (by kernel_rfl) (by kernel_rfl) (by kernel_rfl) (fun _ _ _ h => h) (Or.inl ⟨by kernel_rfl, fun w9 hS => ?_⟩) HS0.out ?_
                · obtain ⟨⟨s0, s1, s2⟩, s3⟩ := hS
                  go_simp
                try simp only [Act.put, List.setIfInBounds_toArray, List.set_cons_zero, List.set_cons_succ]
                refine wpAnyH_ready (rs := [6]) (by kernel_rfl) (by simp) ?_
                refine AllReadyH.cons (o := ⟨some 76, _, _, _, _, _⟩) rfl (fun K hK => ?_) AllReadyH.nil
                rw [if_pos (by kernel_rfl)]
                go_simp
                go_at_call 33
                refine (node_any _ _ (some ⟨br, fr, none⟩) n c2 _ _).mono ?_
                rw [HND.out]
                rintro e v3 ⟨rfl, hb3⟩
                have HKEEP : Hid (Below wr.heap.size wr v3) := Lib.hid (HKEEP.out.trans (hb3.mono HKEEP.out.size))
                have HS1 : Hid _ := Lib.hid (HV.out v3 HKEEP.out)
                refine hK.out _ _ HS1.out (fun _ => ?_)
                clear hK K hb3
                try simp only [Act.put, List.setIfInBounds_toArray, List.set_cons_zero, List.set_cons_succ]
                refine wpAnyH_take (i := 7) (oi := ⟨some 77, _, _, _, _, _⟩) (v := .bool false) rfl (by kernel_rfl) (by kernel_rfl) (by kernel_rfl) (fun _ _ _ h => h) (Or.inl ⟨by kernel_rfl, fun w9 hS => ?_⟩) HS1.out ?_
                · obtain ⟨⟨s0, s1, s2⟩, s3⟩ := hS
                  go_simp
                try simp only [Act.put, List.setIfInBounds_toArray, List.set_cons_zero, List.set_cons_succ]
                refine wpAnyH_take (i := 8) (oi := ⟨some 78, _, _, _, _, _⟩) (v := undef) rfl (by kernel_rfl) (by kernel_rfl) (by kernel_rfl) (fun _ _ _ h => h) (Or.inr ⟨by kernel_rfl, rfl⟩) HS1.out ?_
                try simp only [Act.put, List.setIfInBounds_toArray, List.set_cons_zero, List.set_cons_succ]
                refine wpAnyH_take (i := 9) (oi := ⟨some 79, _, _, _, _, _⟩) (v := undef) rfl (by kernel_rfl) (by kernel_rfl) (by kernel_rfl) (fun _ _ _ h => h) (Or.inr ⟨by kernel_rfl, rfl⟩) HS1.out ?_
                try simp only [Act.put, List.setIfInBounds_toArray, List.set_cons_zero, List.set_cons_succ]
                refine wpAnyH_take (i := 10) (oi := ⟨some 80, _, _, _, _, _⟩) (v := undef) rfl (by kernel_rfl) (by kernel_rfl) (by kernel_rfl) (fun _ _ _ h => h) (Or.inr ⟨by kernel_rfl, rfl⟩) HS1.out ?_
                try simp only [Act.put, List.setIfInBounds_toArray, List.set_cons_zero, List.set_cons_succ]
                refine wpAnyH_take (i := 11) (oi := ⟨some 81, _, _, _, _, _⟩) (v := undef) rfl (by kernel_rfl) (by kernel_rfl) (by kernel_rfl) (fun _ _ _ h => h) (Or.inr ⟨by kernel_rfl, rfl⟩) HS1.out ?_
                try simp only [Act.put, List.setIfInBounds_toArray, List.set_cons_zero, List.set_cons_succ]
                refine wpAnyH_take (i := 12) (oi := ⟨some 82, _, _, _, _, _⟩) (v := undef) rfl (by kernel_rfl) (by kernel_rfl) (by kernel_rfl) (fun _ _ _ h => h) (Or.inr ⟨by kernel_rfl, rfl⟩) HS1.out ?_
                try simp only [Act.put, List.setIfInBounds_toArray, List.set_cons_zero, List.set_cons_succ]
                refine wpAnyH_take (i := 13) (oi := ⟨some 83, _, _, _, _, _⟩) (v := undef) rfl (by kernel_rfl) (by kernel_rfl) (by kernel_rfl) (fun _ _ _ h => h) (Or.inr ⟨by kernel_rfl, rfl⟩) HS1.out ?_
                try simp only [Act.put, List.setIfInBounds_toArray, List.set_cons_zero, List.set_cons_succ]
                refine wpAnyH_take (i := 14) (oi := ⟨some 84, _, _, _, _, _⟩) (v := undef) rfl (by kernel_rfl) (by kernel_rfl) (by kernel_rfl) (fun _ _ _ h => h) (Or.inr ⟨by kernel_rfl, rfl⟩) HS1.out ?_
                try simp only [Act.put, List.setIfInBounds_toArray, List.set_cons_zero, List.set_cons_succ]
                refine wpAnyH_take (i := 15) (oi := ⟨some 85, _, _, _, _, _⟩) (v := undef) rfl (by kernel_rfl) (by kernel_rfl) (by kernel_rfl) (fun _ _ _ h => h) (Or.inr ⟨by kernel_rfl, rfl⟩) HS1.out ?_
                try simp only [Act.put, List.setIfInBounds_toArray, List.set_cons_zero, List.set_cons_succ]
                refine wpAnyH_take (i := 16) (oi := ⟨some 86, _, _, _, _, _⟩) (v := undef) rfl (by kernel_rfl) (by kernel_rfl) (by kernel_rfl) (fun _ _ _ h => h) (Or.inr ⟨by kernel_rfl, rfl⟩) HS1.out ?_
                try simp only [Act.put, List.setIfInBounds_toArray, List.set_cons_zero, List.set_cons_succ]
                refine wpAnyH_take (i := 17) (oi := ⟨some 87, _, _, _, _, _⟩) (v := .bool false) rfl (by kernel_rfl) (by kernel_rfl) (by kernel_rfl) (fun _ _ _ h => h) (Or.inl ⟨by kernel_rfl, fun w9 hS => ?_⟩) HS1.out ?_
                · obtain ⟨⟨s0, s1, s2⟩, s3⟩ := hS
                  go_simp
                try simp only [Act.put, List.setIfInBounds_toArray, List.set_cons_zero, List.set_cons_succ]
                refine wpAnyH_done (by kernel_rfl) ?_ _
                have HT3 : Hid (Turn (fun q => q = w.heap.size + 1) w2 v3) := Lib.hid (HT.out.then_below (HKEEP.out.mono HT.out.size))
                have HO3 : Hid (OI w2.heap.size v3 (.slice Aq lq cq) (waitL tr 0)) := Lib.hid (OI.below HO.out HKEEP.out)
                have HRW3 : Hid (v3.rowIs (w.heap.size + 1) 4 n (mv tr)) := Lib.hid (HRW.out.of_block (HKEEP.out.block _ HRW.out.lt))
                obtain ⟨⟨s0, s1, s2⟩, s3⟩ := HS1.out
                clear s0 s1 s2 s3
                go_wp2_with fail
                go_roundw
                case rel => exact ⟨j + 1, tr, Aq, lq, cq, rfl, by go_num, by omega, HLQ, HO3, HRW3, HT3, HOK, HE⟩
                case measure => simp [intOf]; omega
            · obtain rfl : j = rl := by omega
              have HRE : Hid ((rowF n (fun _ => true) a row tr0).1 = tr) := Lib.hid (by rw [HRF.out, List.drop_of_length_le (by rw [HRL.out]; exact Nat.le_refl _)]; rfl)
              have HFE : Hid (atF n rows f' tr (h + 1) = FIN) := Lib.hid (by rw [← HFA.out, HAN.out, HRE.out])
              have HLE : Hid (h + 1 ≤ tr.length) := Lib.hid (by
                have h1 := HRE.out
                have h2 : tr0.length ≤ (rowF n (fun _ => true) a row tr0).1.length := rowF_grow row tr0
                rw [h1] at h2
                have := HLL.out
                omega)
              clear HRF
              go_wp2_with fail
              go_roundw
              case rel => exact ⟨h + 1, f', tr, Aq, lq, cq, rfl, by go_num, HLQ, HO, HRW, HT, HOK, HLE.out, Lib.hid (by have := HFH.out; omega), HFE⟩
              case measure => have := HFH.out; simp [intOf]; omega
        · have HFE : Hid (tr0 = FIN) := Lib.hid (by rw [← HFA.out, atF_end (by omega)])
          have hlt3 : ¬ (h : Int) < (lq : Int) := by omega
          go_wp2_with fail
          go_ret
          exact ⟨w.heap.size + 1, rfl, Nat.le_succ _, by rw [← HFE.out]; exact HRW.out, HB2.out.trans (HT.out.below (B := w.heap.size) (fun k hk => by omega) HB2.out.size)⟩
end Go.Proofs.Ytjgifbcjokeigaa
